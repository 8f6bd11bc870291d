/- A store of the program and one of the document side by side. -/
import Derived.Test.YtgdiaflikfdnaaaGreatRStrike
import Derived.Test.YtgdiaflikfdnaaaGreatTlL
namespace Go.Proofs.YtgdiaflikfdnaaaGreat
open Go.RowKit Go.Maps
/-- both lie in S, apart from one another -/
def D2 (w : World) (S : Nat → Prop) (b c : Nat) (s : St) (r : Rf) : Prop := ∃ S1 T1, IsSt w S1 b s ∧ IsRf w T1 c r ∧ (∀ i, S1 i → S i) ∧ (∀ i, T1 i → S i) ∧ (∀ i, S1 i → ¬ T1 i) ∧ ∀ i, S i → i < w.heap.size
/-- behind what was done to them -/
def After2 (w w' : World) (S : Nat → Prop) (b c : Nat) (s : St) (r : Rf) : Prop := ∃ S', D2 w' S' b c s r ∧ (∀ i, S' i → S i ∨ w.heap.size ≤ i) ∧ Only S w w'
variable {w w' w1 w2 : World} {S : Nat → Prop} {b c : Nat} {s s' : St} {r r' : Rf}
theorem D2.below (h : D2 w S b c s r) (hb : Below w.heap.size w w') : D2 w' S b c s r := by
  obtain ⟨S1, T1, h1, h2, h3, h4, h5, h6⟩ := h
  exact ⟨S1, T1, h1.below hb, h2.below hb, h3, h4, h5, fun i hi => Nat.lt_of_lt_of_le (h6 i hi) hb.size⟩
theorem D2.only {S' : Nat → Prop} (h : D2 w S b c s r) (ho : Only S' w w') (hn : ∀ i, S i → ¬ S' i) : D2 w' S b c s r := by
  obtain ⟨S1, T1, h1, h2, h3, h4, h5, h6⟩ := h
  exact ⟨S1, T1, h1.only ho fun i hi => hn i (h3 i hi), h2.only ho fun i hi => hn i (h4 i hi), h3, h4, h5, fun i hi => Nat.lt_of_lt_of_le (h6 i hi) ho.size⟩
theorem After2.refl (h : D2 w S b c s r) : After2 w w S b c s r := ⟨S, h, fun _ h => .inl h, Only.refl _ _⟩
theorem After2.trans {S1 : Nat → Prop} (hs : ∀ i, S1 i → S i ∨ w.heap.size ≤ i) (ho : Only S w w1) (h : After2 w1 w2 S1 b c s r) : After2 w w2 S b c s r := by
  obtain ⟨S', h1, h2, h3⟩ := h
  refine ⟨S', h1, fun i hi => ?_, ho.trans h3 hs⟩
  rcases h2 i hi with h | h
  · exact hs i h
  · exact .inr (Nat.le_trans ho.size h)
theorem After2.then (h : After2 w w1 S b c s r) (k : ∀ S', D2 w1 S' b c s r → After2 w1 w2 S' b c s' r') : After2 w w2 S b c s' r' := by
  obtain ⟨S', h1, h2, h3⟩ := h
  exact After2.trans h2 h3 (k S' h1)
theorem After2.front (hb : Below w.heap.size w w1) (h : After2 w1 w2 S b c s r) : After2 w w2 S b c s r := After2.trans (fun _ h => .inl h) (Only.of_below hb) h
theorem After2.next (h : After2 w w1 S b c s r) (hb : Below w1.heap.size w1 w2) : After2 w w2 S b c s r := h.then fun S' h' => ⟨S', h'.below hb, fun _ h => .inl h, Only.of_below hb⟩
theorem D2.st (h : D2 w S b c s r) : ∃ S1, IsSt w S1 b s ∧ (∀ i, S1 i → S i) ∧ ∀ w' s', After w w' S1 b s' → After2 w w' S b c s' r := by
  obtain ⟨S1, T1, h1, h2, h3, h4, h5, h6⟩ := h
  refine ⟨S1, h1, h3, fun w' s' ha => ?_⟩
  obtain ⟨S1', a1, a2, a3⟩ := ha
  have hT : ∀ i, T1 i → i < w.heap.size := fun i hi => h6 i (h4 i hi)
  refine ⟨fun i => S i ∨ (w.heap.size ≤ i ∧ i < w'.heap.size), ⟨S1', T1, a1, h2.only a3 fun i hi hS => h5 i hS hi, fun i hi => ?_, fun i hi => .inl (h4 i hi), fun i hi hT1 => ?_, fun i hi => ?_⟩, fun i hi => hi.imp id fun h => h.1, a3.mono h3⟩
  · have hb : i < w'.heap.size := a1.bound i hi
    rcases a2 i hi with h | h
    · exact .inl (h3 i h)
    · exact .inr ⟨h, hb⟩
  · rcases a2 i hi with h | h
    · exact h5 i h hT1
    · have := hT i hT1; omega
  · rcases hi with hi | hi
    · exact Nat.lt_of_lt_of_le (h6 i hi) a3.size
    · exact hi.2
theorem IsRf.bound (h : IsRf w S b r) : ∀ i, S i → i < w.heap.size := by
  obtain ⟨_, _, _, _, _, _, _, _, h7⟩ := h; exact h7
theorem D2.rf (h : D2 w S b c s r) : ∃ T1, IsRf w T1 c r ∧ (∀ i, T1 i → S i) ∧ ∀ w' r', AfterR w w' T1 c r' → After2 w w' S b c s r' := by
  obtain ⟨S1, T1, h1, h2, h3, h4, h5, h6⟩ := h
  refine ⟨T1, h2, h4, fun w' r' ha => ?_⟩
  obtain ⟨T1', a1, a2, a3⟩ := ha
  have hS : ∀ i, S1 i → i < w.heap.size := fun i hi => h6 i (h3 i hi)
  refine ⟨fun i => S i ∨ (w.heap.size ≤ i ∧ i < w'.heap.size), ⟨S1, T1', h1.only a3 fun i hi hT => h5 i hi hT, a1, fun i hi => .inl (h3 i hi), fun i hi => ?_, fun i hi hT1 => ?_, fun i hi => ?_⟩, fun i hi => hi.imp id fun h => h.1, a3.mono h4⟩
  · have hb : i < w'.heap.size := a1.bound i hi
    rcases a2 i hi with h | h
    · exact .inl (h4 i h)
    · exact .inr ⟨h, hb⟩
  · rcases a2 i hT1 with h | h
    · exact h5 i hi h
    · have := hS i hi; omega
  · rcases hi with hi | hi
    · exact Nat.lt_of_lt_of_le (h6 i hi) a3.size
    · exact hi.2
theorem After2.st (h : After2 w w1 S b c s r) : ∃ S1, IsSt w1 S1 b s ∧ (∀ i, S1 i → S i ∨ w.heap.size ≤ i) ∧ ∀ w2 s', After w1 w2 S1 b s' → After2 w w2 S b c s' r := by
  obtain ⟨S', h1, h2, h3⟩ := h
  obtain ⟨S1, k1, k2, k3⟩ := h1.st
  exact ⟨S1, k1, fun i hi => h2 i (k2 i hi), fun w2 s' ha => After2.trans h2 h3 (k3 w2 s' ha)⟩
theorem After2.rf (h : After2 w w1 S b c s r) : ∃ T1, IsRf w1 T1 c r ∧ (∀ i, T1 i → S i ∨ w.heap.size ≤ i) ∧ ∀ w2 r', AfterR w1 w2 T1 c r' → After2 w w2 S b c s r' := by
  obtain ⟨S', h1, h2, h3⟩ := h
  obtain ⟨S1, k1, k2, k3⟩ := h1.rf
  exact ⟨S1, k1, fun i hi => h2 i (k2 i hi), fun w2 s' ha => After2.trans h2 h3 (k3 w2 s' ha)⟩
theorem After2.has (h : After2 w w1 S b c s r) {B : Nat} {cs : Array Value} {t : TypeId} (hh : Has w B cs t) (hn : ¬ S B) : Has w1 B cs t := by
  obtain ⟨_, _, _, h3⟩ := h
  exact h3.has hh hn
end Go.Proofs.YtgdiaflikfdnaaaGreat
