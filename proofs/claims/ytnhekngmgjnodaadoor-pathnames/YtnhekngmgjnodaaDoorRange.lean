/- A range over what stands between the slashes: the body is handed what comes next; it may leave by a return. -/
import Derived.Test.YtnhekngmgjnodaaDoorIter
namespace Go.Proofs.YtnhekngmgjnodaaDoor
open Go.RowKit
open Pa
set_option linter.unusedVariables false
/-- what a round leaves -/
def rPost (prot : Nat → Prop) (I Ix : List ByteArray → World → Prop) (xs : List ByteArray) (W : World) : Exit → Act → World → Prop
  | .normal, _, W' => (∀ k, prot k → W'.heap[k]? = W.heap[k]?) ∧ I xs W'
  | .ret, _, W' => (∀ k, prot k → W'.heap[k]? = W.heap[k]?) ∧ Ix xs W'
  | _, _, _ => False
set_option maxHeartbeats 4000000 in
theorem rangeSplit {n c1 c2 c3 : Nat} {s : ByteArray} {gop : Operand} {ps : Array Tmp} {assign body : Code} {Q : Exit → Act → World → Prop} {a : Act} {w : World} (hn : 1 ≤ n) (hs : s.size ≤ 4611686018427387903)
    (hg : a.eval gop = .func (.func 37) #[] #[.pointer (some ⟨c1, 0, none⟩), .pointer (some ⟨c2, 0, none⟩), .pointer (some ⟨c3, 0, none⟩)]) (hps : ps.size = 1)
    (h1 : Has w c1 #[.string ⟨#[47]⟩] 9) (h2 : Has w c2 #[.string s] 9) (h3 : Has w c3 #[.int .i64 0] 3) (h12 : c1 ≠ c2) (h32 : c3 ≠ c2)
    (I Ix : List ByteArray → World → Prop) (h0 : ∀ o1 o2, I [] ((w.alloc o1).alloc o2))
    (hI : ∀ pre W k o o', (k = w.heap.size ∨ k = w.heap.size + 1) → W.heap[k]? = some o' → o'.isCells = false → I pre W → I pre (W.putObj k o))
    (hIx : ∀ pre W k o o', (k = w.heap.size ∨ k = w.heap.size + 1) → W.heap[k]? = some o' → o'.isCells = false → Ix pre W → Ix pre (W.putObj k o))
    (hIs : ∀ pre W (r : ByteArray), I pre W → I pre (W.setCell ⟨c2, 0, none⟩ (.string r))) (a1 : ByteArray → Act)
    (hassign : ∀ (l : Nat) (x : ByteArray) (W : World) (K : Act → World → Prop), K (a1 x) W → assign.wpIn (Fence.wide.inRound l) (n - 1 - 1) Tryd.prog (Exit.then K (fun _ _ _ => False)) { tmps := (ps.zip #[.string x]).foldl (fun t (p, v) => t.setIfInBounds p v) a.tmps, defers := [] } W)
    (hbody : ∀ (l : Nat) (pre : List ByteArray) (x : ByteArray) (W : World), I pre W → w.heap.size + 2 ≤ W.heap.size → pre ++ [x] <+: splB s → body.wpIn (Fence.wide.inRound l) (n - 1 - 1) Tryd.prog (rPost (fun k => k = w.heap.size ∨ k = w.heap.size + 1 ∨ k = c1 ∨ k = c2 ∨ k = c3) I Ix (pre ++ [x]) W) (a1 x) W)
    (hdone : ∀ (W : World), I (splB s) W → W.heap[w.heap.size]? = some (.deferred (some [])) → Q .normal { a with defers := { target := .collected w.heap.size, args := #[] } :: a.defers } W)
    (hstop : ∀ (pre : List ByteArray) (W : World), Ix pre W → W.heap[w.heap.size]? = some (.deferred (some [])) → Code.ret.wpIn Fence.wide n Tryd.prog Q { a with defers := { target := .collected w.heap.size, args := #[] } :: a.defers } W) :
    (Code.rangeFunc gop ps assign body).wpIn Fence.wide n Tryd.prog Q a w := by
  refine wpIn_rangeFunc ?_
  intro fn hfn
  obtain ⟨B, hB⟩ : ∃ B, B = w.heap.size := ⟨_, rfl⟩
  have l1' := h1.lt
  have l2' := h2.lt
  have l3' := h3.lt
  obtain ⟨rc, hrc⟩ : ∃ rc : LoopState → Option Code → Loop, rc = fun st pe => { state := st, pending := pe, fn, tmps := a.tmps, params := ps, assign, body, defers := w.heap.size } := ⟨_, rfl⟩
  obtain ⟨W1, hW1⟩ : ∃ W1, W1 = (w.alloc (.deferred (some []))).alloc (.loop (rc .ready none)) := ⟨_, rfl⟩
  have hsz : W1.heap.size = B + 2 := by rw [hW1, hB]; simp
  have l1 : W1.heap[B + 1]? = some (.loop (rc .ready none)) := by
    have := World.alloc_heap_new (w.alloc (.deferred (some []))) (.loop (rc .ready none))
    rw [World.size_alloc] at this
    rw [hW1, hB]
    exact this
  have k1 : W1.heap[B]? = some (.deferred (some [])) := by
    rw [hW1, hB]
    exact (Below.heap_alloc _ _ _ (by simp)).trans (World.alloc_heap_new w _)
  obtain ⟨J, hJ⟩ : ∃ J : List ByteArray → World → Prop, J = fun pre W => I pre W ∧ Has W c1 #[.string ⟨#[47]⟩] 9 ∧ Has W c3 #[.int .i64 0] 3 ∧ W.heap[B + 1]? = some (.loop (rc .ready none)) ∧ W.heap[B]? = some (.deferred (some [])) := ⟨_, rfl⟩
  obtain ⟨Jx, hJx⟩ : ∃ Jx : List ByteArray → World → Prop, Jx = fun pre W => Ix pre W ∧ W.heap[B + 1]? = some (.loop (rc .done (some .ret))) ∧ W.heap[B]? = some (.deferred (some [])) := ⟨_, rfl⟩
  have hput : ∀ {W : World} {c : Nat} {cs : Array Value} {t : TypeId} {o : Obj}, Has W c cs t → c < B → Has (W.putObj (B + 1) o) c cs t := fun h hc => (World.putObj_heap_other (by omega)).trans h
  have hround : ∀ (pre : List ByteArray) (x r : ByteArray) (W : World), J pre W → Has W c2 #[.string r] 9 → pre ++ [x] <+: splB s → YieldAt Fence.wide (n - 1 - 1) Tryd.prog (B + 1) #[.string x] W fun e W' => (e = .returned (.bool true) ∧ J (pre ++ [x]) W' ∧ Has W' c2 #[.string r] 9) ∨ (e = .returned (.bool false) ∧ Jx (pre ++ [x]) W') := by
    intro pre x r W hj hr hlen
    rw [hJ] at hj
    obtain ⟨hi, p1, p3, hl, hk⟩ := hj
    have hlt : B + 1 < W.heap.size := (Array.getElem?_eq_some_iff.1 hl).1
    have hy := run_yield (P := Tryd.prog) (args := #[.string x]) hl (by rw [hrc]; simp [hps])
    rw [hrc] at hy
    refine ⟨fn, _, assign, body, hy, roundIn_of_wpIn hfn (hassign _ x W _ ?_)⟩
    clear hy
    obtain ⟨Wb, hWb⟩ : ∃ Wb, Wb = W.putObj (B + 1) (.loop { rc .ready none with state := .busy }) := ⟨_, rfl⟩
    refine ⟨_, run_beginRound hl (by rw [hrc]), ?_⟩
    have lb : Wb.heap[B + 1]? = some (.loop { rc .ready none with state := .busy }) := by rw [hWb]; exact World.putObj_heap_same hlt
    have kb : Wb.heap[B]? = some (.deferred (some [])) := by rw [hWb]; exact (World.putObj_heap_other (by omega)).trans hk
    have ib : I pre Wb := by rw [hWb]; exact hI pre W (B + 1) _ _ (.inr (by rw [hB])) hl rfl hi
    have q1 : Has Wb c1 #[.string ⟨#[47]⟩] 9 := by rw [hWb]; exact hput p1 (by omega)
    have q3 : Has Wb c3 #[.int .i64 0] 3 := by rw [hWb]; exact hput p3 (by omega)
    have q2 : Has Wb c2 #[.string r] 9 := by rw [hWb]; exact hput hr (by omega)
    have hbz : w.heap.size + 2 ≤ Wb.heap.size := by
      have := (Array.getElem?_eq_some_iff.1 lb).1
      omega
    rw [← hWb]
    refine wpIn_mono (hbody (B + 1) pre x Wb ib hbz hlen) ?_
    intro e a3 W3 hp
    have fin : ∀ (jump : Option Code), (∀ k, (k = w.heap.size ∨ k = w.heap.size + 1 ∨ k = c1 ∨ k = c2 ∨ k = c3) → W3.heap[k]? = Wb.heap[k]?) → ∃ W4, W4 = W3.putObj (B + 1) (.loop (rc (if jump.isNone then .ready else .done) jump)) ∧ (Instr.endRound (B + 1) jump).run Tryd.prog W3 = .ok (.bool jump.isNone) W4 ∧ W4.heap[B + 1]? = some (.loop (rc (if jump.isNone then .ready else .done) jump)) ∧ W4.heap[B]? = some (.deferred (some [])) ∧ W3.heap[B + 1]? = some (.loop { rc .ready none with state := .busy }) ∧ Has W4 c1 #[.string ⟨#[47]⟩] 9 ∧ Has W4 c2 #[.string r] 9 ∧ Has W4 c3 #[.int .i64 0] 3 := fun jump h2 => by
      have l3 : W3.heap[B + 1]? = some (.loop { rc .ready none with state := .busy }) := (h2 _ (by omega)).trans lb
      have k3 : W3.heap[B]? = some (.deferred (some [])) := (h2 _ (by omega)).trans kb
      refine ⟨_, rfl, ?_, World.putObj_heap_same (Array.getElem?_eq_some_iff.1 l3).1, (World.putObj_heap_other (by omega)).trans k3, l3, hput ((h2 _ (by omega)).trans q1) (by omega), hput ((h2 _ (by omega)).trans q2) (by omega), hput ((h2 _ (by omega)).trans q3) (by omega)⟩
      have := run_endRound (P := Tryd.prog) jump l3
      rw [hrc] at this ⊢
      exact this
    cases e with
    | normal =>
      obtain ⟨h2, h4⟩ := hp
      obtain ⟨W4, hW4, e1, e2, e3, l3, t1, t2, t3⟩ := fin none h2
      refine ⟨_, _, e1, .inl ⟨rfl, ?_, t2⟩⟩
      rw [hJ]
      exact ⟨by rw [hW4]; exact hI _ _ (B + 1) _ _ (.inr (by rw [hB])) l3 rfl h4, t1, t3, e2, e3⟩
    | ret =>
      obtain ⟨h2, h4⟩ := hp
      obtain ⟨W4, hW4, e1, e2, e3, l3, t1, t2, t3⟩ := fin (some .ret) h2
      refine ⟨_, _, e1, .inr ⟨rfl, ?_⟩⟩
      rw [hJx]
      exact ⟨by rw [hW4]; exact hIx _ _ (B + 1) _ _ (.inr (by rw [hB])) l3 rfl h4, e2, e3⟩
    | exit id => exact hp.elim
    | goto t => exact hp.elim
    | panic ch => exact hp.elim
    | outgrown => exact hp.elim
  have up : ∀ {c : Nat} {cs : Array Value} {t : TypeId}, Has w c cs t → Has W1 c cs t := fun h => by rw [hW1]; exact (h.alloc _).alloc _
  have hj0 : J [] W1 := by
    rw [hJ]
    exact ⟨by rw [hW1]; exact h0 _ _, up h1, up h3, l1, k1⟩
  have hit := split_in (n - 1) (B + 1) c1 c2 c3 s hs J Jx (fun pre W h => by rw [hJ] at h; exact ⟨h.2.1, h.2.2.1⟩)
    (fun pre W r h => by
      rw [hJ] at h ⊢
      obtain ⟨a1, a2, a3, a4, a5⟩ := h
      exact ⟨hIs _ _ _ a1, a2.other _ _ h12, a3.other _ _ h32, (Below.heap_setCell _ _ _ _ (show B + 1 ≠ c2 by omega)).trans a4, (Below.heap_setCell _ _ _ _ (show B ≠ c2 by omega)).trans a5⟩) hround W1 hj0 (up h2)
  refine ⟨B + 1, [{ target := .collected w.heap.size, args := #[] }], W1, { target := .fn (.func 37) #[.pointer (some ⟨c1, 0, none⟩), .pointer (some ⟨c2, 0, none⟩), .pointer (some ⟨c3, 0, none⟩)], args := #[.func (.yield (B + 1)) #[] #[]] }, W1, 37,
    #[.func (.yield (B + 1)) #[] #[]] ++ #[.pointer (some ⟨c1, 0, none⟩), .pointer (some ⟨c2, 0, none⟩), .pointer (some ⟨c3, 0, none⟩)], W1, ?_, ?_, ?_, ?_, fun _ => hn, ?_⟩
  · rw [hW1, hrc, hB]; exact run_enterLoop_outer _ _ _ _ _
  · simp only [resolve, hg]
    simp [go_sem]
  · intro f' hf'
    trivial
  · simp [invoke, go_sem]
  · refine hit.mono ?_
    rintro e W2 ⟨⟨v, rfl⟩, hj | ⟨pre, hj⟩⟩
    · rw [hJ] at hj
      obtain ⟨hi, _, _, hl, hk⟩ := hj
      refine ⟨none, _, by have := run_endLoop (P := Tryd.prog) hl (by rw [hrc]; simp); rw [hrc] at this; exact this, hdone _ (hI _ _ (B + 1) _ _ (.inr (by rw [hB])) hl rfl hi) ?_⟩
      rw [← hB]
      exact (World.putObj_heap_other (by omega)).trans hk
    · rw [hJx] at hj
      obtain ⟨hi, hl, hk⟩ := hj
      refine ⟨some .ret, _, by have := run_endLoop (P := Tryd.prog) hl (by rw [hrc]; simp); rw [hrc] at this; exact this, hstop pre _ (hIx _ _ (B + 1) _ _ (.inr (by rw [hB])) hl rfl hi) ?_⟩
      rw [← hB]
      exact (World.putObj_heap_other (by omega)).trans hk
end Go.Proofs.YtnhekngmgjnodaaDoor
