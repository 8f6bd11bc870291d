/- A range over the ends: the body is handed what comes next, and is told that it does. -/
import Derived.Test.YtjcanlopilifoaaIter
namespace Go.Proofs.Ytjcanlopilifoaa
open Go.RowKit
open Gr
set_option linter.unusedVariables false
/-- what a round leaves -/
def roundPost (B : Nat) (I : List Nat → World → Prop) (xs : List Nat) (W : World) : Exit → Act → World → Prop
  | .normal, _, W' => (KeepsOthers W W' ∨ ∀ k, (k = B ∨ k = B + 1) → W'.heap[k]? = W.heap[k]?) ∧ I xs W'
  | _, _, _ => False
set_option maxHeartbeats 2000000 in
theorem rangeEnds {n cb : Nat} {s : ByteArray} {gop : Operand} {ps : Array Tmp} {assign body : Code} {Q : Exit → Act → World → Prop} {a : Act} {w : World} (hn : 1 ≤ n) (hs : s.size ≤ 100000)
    (hg : a.eval gop = .func (.func 19) #[] #[.pointer (some ⟨cb, 0, none⟩)]) (hps : ps.size = 1)
    (I : List Nat → World → Prop) (hIc : ∀ pre W, I pre W → Has W cb #[.string s] 9) (h0 : ∀ o1 o2, I [] ((w.alloc o1).alloc o2))
    (hI : ∀ pre W k o o', (k = w.heap.size ∨ k = w.heap.size + 1) → W.heap[k]? = some o' → o'.isCells = false → I pre W → I pre (W.putObj k o)) (a1 : Nat → Act)
    (hassign : ∀ (l : Nat) (x : Nat) (W : World) (K : Act → World → Prop), K (a1 x) W → assign.wpIn (Fence.wide.inRound l) (n - 1 - 1) Try.prog (Exit.then K (fun _ _ _ => False)) { tmps := (ps.zip #[.int .i64 (x : Int)]).foldl (fun t (p, v) => t.setIfInBounds p v) a.tmps, defers := [] } W)
    (hbody : ∀ (l : Nat) (pre : List Nat) (x : Nat) (W : World), I pre W → pre ++ [x] <+: ends (bs s) → body.wpIn (Fence.wide.inRound l) (n - 1 - 1) Try.prog (roundPost w.heap.size I (pre ++ [x]) W) (a1 x) W)
    (hdone : ∀ (W : World), I (ends (bs s)) W → W.heap[w.heap.size]? = some (.deferred (some [])) → Q .normal { a with defers := { target := .collected w.heap.size, args := #[] } :: a.defers } W) :
    (Code.rangeFunc gop ps assign body).wpIn Fence.wide n Try.prog Q a w := by
  refine wpIn_rangeFunc ?_
  intro fn hfn
  obtain ⟨B, hB⟩ : ∃ B, B = w.heap.size := ⟨_, rfl⟩
  obtain ⟨rc, hrc⟩ : ∃ rc : LoopState → Option Code → Loop, rc = fun st pe => { state := st, pending := pe, fn, tmps := a.tmps, params := ps, assign, body, defers := w.heap.size } := ⟨_, rfl⟩
  obtain ⟨W1, hW1⟩ : ∃ W1, W1 = (w.alloc (.deferred (some []))).alloc (.loop (rc .ready none)) := ⟨_, rfl⟩
  have hsz : W1.heap.size = B + 2 := by rw [hW1, hB]; simp
  have l1 : W1.heap[B + 1]? = some (.loop (rc .ready none)) := by
    have := World.alloc_heap_new (w.alloc (.deferred (some []))) (.loop (rc .ready none))
    rw [World.size_alloc] at this
    rw [hW1, hB]
    exact this
  have k1 : W1.heap[B]? = some (.deferred (some [])) := by
    rw [hW1, hB]
    exact (Below.heap_alloc _ _ _ (by simp)).trans (World.alloc_heap_new w _)
  -- the book-keeping holds; what is told is I
  obtain ⟨J, hJ⟩ : ∃ J : List Nat → World → Prop, J = fun pre W => I pre W ∧ W.heap[B + 1]? = some (.loop (rc .ready none)) ∧ W.heap[B]? = some (.deferred (some [])) := ⟨_, rfl⟩
  have hround : ∀ (pre : List Nat) (x : Nat) (W : World), J pre W → pre ++ [x] <+: ends (bs s) → YieldAt Fence.wide (n - 1 - 1) Try.prog (B + 1) #[.int .i64 (x : Int)] W fun e W' => e = .returned (.bool true) ∧ J (pre ++ [x]) W' := by
    intro pre x W hj hlen
    rw [hJ] at hj
    obtain ⟨hi, hl, hk⟩ := hj
    have hlt : B + 1 < W.heap.size := (Array.getElem?_eq_some_iff.1 hl).1
    have hy := run_yield (P := Try.prog) (args := #[.int .i64 (x : Int)]) hl (by rw [hrc]; simp [hps])
    rw [hrc] at hy
    refine ⟨fn, _, assign, body, hy, roundIn_of_wpIn hfn (hassign _ x W _ ?_)⟩
    clear hy
    obtain ⟨Wb, hWb⟩ : ∃ Wb, Wb = W.putObj (B + 1) (.loop { rc .ready none with state := .busy }) := ⟨_, rfl⟩
    refine ⟨_, run_beginRound hl (by rw [hrc]), ?_⟩
    have lb : Wb.heap[B + 1]? = some (.loop { rc .ready none with state := .busy }) := by rw [hWb]; exact World.putObj_heap_same hlt
    have kb : Wb.heap[B]? = some (.deferred (some [])) := by rw [hWb]; exact (World.putObj_heap_other (by omega)).trans hk
    have ib : I pre Wb := by rw [hWb]; exact hI pre W (B + 1) _ _ (.inr (by rw [hB])) hl rfl hi
    rw [← hWb]
    refine wpIn_mono (hbody (B + 1) pre x Wb ib hlen) ?_
    intro e a3 W3 hp
    have fin : ∀ (jump : Option Code), (KeepsOthers Wb W3 ∨ ∀ k, (k = w.heap.size ∨ k = w.heap.size + 1) → W3.heap[k]? = Wb.heap[k]?) → ∃ W4, W4 = W3.putObj (B + 1) (.loop (rc (if jump.isNone then .ready else .done) jump)) ∧ (Instr.endRound (B + 1) jump).run Try.prog W3 = .ok (.bool jump.isNone) W4 ∧ W4.heap[B + 1]? = some (.loop (rc (if jump.isNone then .ready else .done) jump)) ∧ W4.heap[B]? = some (.deferred (some [])) ∧ W3.heap[B + 1]? = some (.loop { rc .ready none with state := .busy }) := fun jump h2 => by
      have l3 : W3.heap[B + 1]? = some (.loop { rc .ready none with state := .busy }) := by
        rcases h2 with h2 | h2
        · exact h2.same _ _ lb rfl
        · exact (h2 _ (by omega)).trans lb
      have k3 : W3.heap[B]? = some (.deferred (some [])) := by
        rcases h2 with h2 | h2
        · exact h2.same _ _ kb rfl
        · exact (h2 _ (by omega)).trans kb
      refine ⟨_, rfl, ?_, World.putObj_heap_same (Array.getElem?_eq_some_iff.1 l3).1, (World.putObj_heap_other (by omega)).trans k3, l3⟩
      have := run_endRound (P := Try.prog) jump l3
      rw [hrc] at this ⊢
      exact this
    cases e with
    | normal =>
      obtain ⟨h2, h4⟩ := hp
      obtain ⟨W4, hW4, e1, e2, e3, l3⟩ := fin none h2
      refine ⟨_, _, e1, rfl, ?_⟩
      rw [hJ]
      exact ⟨by rw [hW4]; exact hI _ _ (B + 1) _ _ (.inr (by rw [hB])) l3 rfl h4, e2, e3⟩
    | ret => exact hp.elim
    | exit id => exact hp.elim
    | goto t => exact hp.elim
    | panic ch => exact hp.elim
    | outgrown => exact hp.elim
  have hj0 : J [] W1 := by
    rw [hJ]
    exact ⟨by rw [hW1]; exact h0 _ _, l1, k1⟩
  have hit := ends_in (n - 1) (B + 1) cb s hs J (fun pre W h => by rw [hJ] at h; exact hIc pre W h.1) hround W1 hj0
  refine ⟨B + 1, [{ target := .collected w.heap.size, args := #[] }], W1, { target := .fn (.func 19) #[.pointer (some ⟨cb, 0, none⟩)], args := #[.func (.yield (B + 1)) #[] #[]] }, W1, 19,
    #[.func (.yield (B + 1)) #[] #[]] ++ #[.pointer (some ⟨cb, 0, none⟩)], W1, ?_, ?_, ?_, ?_, fun _ => hn, ?_⟩
  · rw [hW1, hrc, hB]; exact run_enterLoop_outer _ _ _ _ _
  · simp only [resolve, hg]
    simp [go_sem]
  · intro f' hf'
    trivial
  · simp [invoke, go_sem]
  · refine hit.mono ?_
    rintro e W2 ⟨⟨v, rfl⟩, hj⟩
    rw [hJ] at hj
    obtain ⟨hi, hl, hk⟩ := hj
    refine ⟨none, _, by have := run_endLoop (P := Try.prog) hl (by rw [hrc]; simp); rw [hrc] at this; exact this, hdone _ (hI _ _ (B + 1) _ _ (.inr (by rw [hB])) hl rfl hi) ?_⟩
    rw [← hB]
    exact (World.putObj_heap_other (by omega)).trans hk
end Go.Proofs.Ytjcanlopilifoaa
