/- Stepping a matrix down, over the numbers of the field: what stands where behind each column; whatever is linear stays. No program in it. -/
import Derived.Test.YtjgjcbgeekfkkaaLaws
namespace Go.Proofs.Ytjgjcbgeekfkkaa
namespace El
open Fld
/-- a matrix: what stands in a row, at a column -/
abbrev M := Nat → Nat → Nat
def B1 (u : Nat → Nat) : Prop := ∀ j, u j < 256
def Byt (f : M) : Prop := ∀ i j, f i j < 256
def raiseF (d p : Nat) (f : M) : M := fun i j => if i = d then f p j else if d < i ∧ i ≤ p then f (i - 1) j else f i j
def oneF (d c : Nat) (f : M) : M := fun i j => if i = d then mul (f d j) (inv (f d c)) else f i j
def offF (d c i : Nat) (f : M) : M := fun k j => if k = i then f i j ^^^ mul (f i c) (f d j) else f k j
/-- the first n rows, but row d, are done -/
def offT (d c n : Nat) (f : M) : M := fun i j => if i < n ∧ i ≠ d then f i j ^^^ mul (f i c) (f d j) else f i j
def seek (f : M) (c : Nat) : Nat → Nat → Nat
  | 0, i => i
  | n + 1, i => if f i c = 0 then seek f c n (i + 1) else i
def gone (R d c p : Nat) (f : M) : M := offT d c R (oneF d c (raiseF d p f))
def step (R c : Nat) (s : M × Nat) : M × Nat :=
  if seek s.1 c (R - s.2) s.2 < R then (gone R s.2 c (seek s.1 c (R - s.2) s.2) s.1, s.2 + 1) else s
def steps (R : Nat) (f : M) : Nat → M × Nat
  | 0 => (f, 0)
  | c + 1 => step R c (steps R f c)
theorem offT_zero (d c : Nat) (f : M) : offT d c 0 f = f := by
  funext i j; simp [offT]
theorem offT_succ (d c n : Nat) (f : M) : offT d c (n + 1) f = if n = d then offT d c n f else offF d c n (offT d c n f) := by
  funext i j
  by_cases hn : n = d
  · rw [if_pos hn]; unfold offT
    by_cases hi : i < n ∧ i ≠ d
    · rw [if_pos hi, if_pos ⟨by omega, hi.2⟩]
    · rw [if_neg hi, if_neg (by omega)]
  · rw [if_neg hn]; unfold offF
    have e1 : ∀ j, offT d c n f n j = f n j := fun j => by unfold offT; rw [if_neg (by omega)]
    have e2 : ∀ j, offT d c n f d j = f d j := fun j => by unfold offT; rw [if_neg (by omega)]
    by_cases hi : i = n
    · subst hi; rw [if_pos rfl, e1, e1, e2]; unfold offT; rw [if_pos ⟨by omega, hn⟩]
    · rw [if_neg hi]; unfold offT
      by_cases h2 : i < n ∧ i ≠ d
      · rw [if_pos h2, if_pos ⟨by omega, h2.2⟩]
      · rw [if_neg h2, if_neg (by omega)]
theorem byt_raise {f : M} (h : Byt f) (d p : Nat) : Byt (raiseF d p f) := fun i j => by
  unfold raiseF; split
  · exact h _ _
  · split <;> exact h _ _
theorem byt_one {f : M} (h : Byt f) (d c : Nat) : Byt (oneF d c f) := fun i j => by
  unfold oneF; split
  · exact mul_lt _ _
  · exact h _ _
theorem byt_offT {f : M} (h : Byt f) (d c n : Nat) : Byt (offT d c n f) := fun i j => by
  unfold offT; split
  · exact xor_lt (h _ _) (mul_lt _ _)
  · exact h _ _
theorem byt_gone {f : M} (h : Byt f) (R d c p : Nat) : Byt (gone R d c p f) := byt_offT (byt_one (byt_raise h _ _) _ _) _ _ _
theorem seek_spec (f : M) (c : Nat) : ∀ n i, i ≤ seek f c n i ∧ seek f c n i ≤ i + n ∧ (seek f c n i < i + n → f (seek f c n i) c ≠ 0) ∧ ∀ k, i ≤ k → k < seek f c n i → f k c = 0
  | 0, i => ⟨Nat.le_refl _, Nat.le_refl _, fun h => absurd h (by simp [seek]), fun k h1 h2 => absurd h2 (by simp [seek]; omega)⟩
  | n + 1, i => by
    by_cases h : f i c = 0
    · have ih := seek_spec f c n (i + 1)
      have e : seek f c (n + 1) i = seek f c n (i + 1) := by rw [seek, if_pos h]
      rw [e]
      refine ⟨by omega, by omega, fun hh => ih.2.2.1 (by omega), fun k h1 h2 => ?_⟩
      by_cases hk : k = i
      · subst hk; exact h
      · exact ih.2.2.2 k (by omega) h2
    · have e : seek f c (n + 1) i = i := by rw [seek, if_neg h]
      rw [e]
      exact ⟨Nat.le_refl _, by omega, fun _ => h, fun k h1 h2 => by omega⟩
theorem seek_at (f : M) (c d i n : Nat) (hn : i < d + n) (hd : d ≤ i) (h0 : ∀ k, d ≤ k → k < i → f k c = 0) (h : f i c ≠ 0) : seek f c n d = i := by
  have s := seek_spec f c n d
  by_cases h1 : seek f c n d < i
  · exact absurd (h0 _ s.1 h1) (s.2.2.1 (by omega))
  · by_cases h2 : i < seek f c n d
    · exact absurd (s.2.2.2 i hd h2) h
    · omega
theorem seek_none (f : M) (c d n : Nat) (h0 : ∀ k, d ≤ k → k < d + n → f k c = 0) : seek f c n d = d + n := by
  have s := seek_spec f c n d
  by_cases h1 : seek f c n d < d + n
  · exact absurd (h0 _ s.1 h1) (s.2.2.1 h1)
  · omega
theorem step_at (R c d i : Nat) (f : M) (hi : i < R) (hd : d ≤ i) (h0 : ∀ k, d ≤ k → k < i → f k c = 0) (h : f i c ≠ 0) : step R c (f, d) = (gone R d c i f, d + 1) := by
  unfold step
  rw [seek_at f c d i (R - d) (by omega) hd h0 h, if_pos hi]
theorem step_none (R c d : Nat) (f : M) (hd : d ≤ R) (h0 : ∀ k, d ≤ k → k < R → f k c = 0) : step R c (f, d) = (f, d) := by
  unfold step
  rw [seek_none f c d (R - d) (fun k h1 h2 => h0 k h1 (by omega)), if_neg (by show ¬ d + (R - d) < R; omega)]
/-- what one step is: nothing, or a row that is done -/
theorem step_cases (R c : Nat) (f : M) (d : Nat) (hd : d ≤ R) : (step R c (f, d) = (f, d) ∧ ∀ k, d ≤ k → k < R → f k c = 0) ∨ ∃ p, d ≤ p ∧ p < R ∧ f p c ≠ 0 ∧ step R c (f, d) = (gone R d c p f, d + 1) := by
  have s := seek_spec f c (R - d) d
  by_cases h : seek f c (R - d) d < R
  · exact .inr ⟨_, s.1, h, s.2.2.1 (by omega), by unfold step; rw [if_pos h]⟩
  · exact .inl ⟨by unfold step; rw [if_neg h], fun k h1 h2 => s.2.2.2 k h1 (by omega)⟩
theorem one_at {f : M} {d c : Nat} (hb : Byt f) (h : f d c ≠ 0) : oneF d c f d c = 1 := by
  unfold oneF; rw [if_pos rfl, mul_inv (hb _ _) h]
theorem raise_at (d p : Nat) (f : M) (j : Nat) : raiseF d p f d j = f p j := by unfold raiseF; rw [if_pos rfl]
theorem gone_d (R d c p : Nat) (f : M) (j : Nat) : gone R d c p f d j = mul (f p j) (inv (f p c)) := by
  unfold gone offT; rw [if_neg (by omega)]; unfold oneF; rw [if_pos rfl, raise_at, raise_at]
theorem gone_o (R d c p : Nat) (f : M) (i j : Nat) (hi : i < R) (hd : i ≠ d) : gone R d c p f i j = raiseF d p f i j ^^^ mul (raiseF d p f i c) (mul (f p j) (inv (f p c))) := by
  unfold gone offT; rw [if_pos ⟨hi, hd⟩]
  have e : ∀ j, oneF d c (raiseF d p f) i j = raiseF d p f i j := fun j => by unfold oneF; rw [if_neg hd]
  rw [e, e]; unfold oneF; rw [if_pos rfl, raise_at, raise_at]
theorem gone_c (R d c p : Nat) (f : M) (i : Nat) (hb : Byt f) (hi : i < R) (h : f p c ≠ 0) : gone R d c p f i c = if i = d then 1 else 0 := by
  by_cases hd : i = d
  · subst hd; rw [if_pos rfl, gone_d, mul_inv (hb _ _) h]
  · rw [if_neg hd, gone_o R d c p f i c hi hd, mul_inv (hb _ _) h, mul_one (byt_raise hb _ _ _ _), Nat.xor_self]
theorem raise_zero {R d p : Nat} {f : M} {j : Nat} (h : ∀ i, d ≤ i → i < R → f i j = 0) (hp : p < R) (hdp : d ≤ p) (i : Nat) (hi : d ≤ i) (hR : i < R) : raiseF d p f i j = 0 := by
  unfold raiseF; split
  · exact h p hdp hp
  · split
    · exact h _ (by omega) (by omega)
    · exact h _ hi hR
theorem raise_low {d p i : Nat} {f : M} {j : Nat} (hi : i < d) : raiseF d p f i j = f i j := by
  unfold raiseF; rw [if_neg (by omega), if_neg (by omega)]
/-- ahead of the column nothing stands in what is not done; where all columns had a row, it is 1 where row and column are the same -/
structure Inv (R c : Nat) (s : M × Nat) : Prop where
  byt : Byt s.1
  le : s.2 ≤ R
  lec : s.2 ≤ c
  zero : ∀ i, s.2 ≤ i → i < R → ∀ j, j < c → s.1 i j = 0
  unit : s.2 = c → ∀ i, i < R → ∀ j, j < c → s.1 i j = if i = j then 1 else 0
theorem inv_start (R : Nat) (f : M) (hb : Byt f) : Inv R 0 (f, 0) := ⟨hb, Nat.zero_le _, Nat.le_refl _, fun _ _ _ j hj => absurd hj (by omega), fun _ _ _ j hj => absurd hj (by omega)⟩
theorem inv_step (R c : Nat) (s : M × Nat) (h : Inv R c s) : Inv R (c + 1) (step R c s) := by
  obtain ⟨f, d⟩ := s
  obtain ⟨h1, h2, h3, h4, h5⟩ := h
  simp only at h1 h2 h3 h4 h5
  rcases step_cases R c f d h2 with ⟨e, h0⟩ | ⟨p, hdp, hp, hne, e⟩
  · rw [e]
    refine ⟨h1, h2, by show d ≤ c + 1; omega, fun i hi hR j hj => ?_, fun hd => absurd hd (by show d ≠ c + 1; omega)⟩
    by_cases hjc : j = c
    · subst hjc; exact h0 i hi hR
    · exact h4 i hi hR j (by omega)
  · rw [e]
    have hz : ∀ j, j < c → f p j = 0 := fun j hj => h4 p hdp hp j hj
    have hg : ∀ i, i < R → ∀ j, j < c → gone R d c p f i j = raiseF d p f i j := fun i hi j hj => by
      by_cases hd : i = d
      · subst hd; rw [gone_d, raise_at, hz j hj, zero_mul]
      · rw [gone_o R d c p f i j hi hd, hz j hj, zero_mul, mul_zero, Nat.xor_zero]
    refine ⟨byt_gone h1 _ _ _ _, by show d + 1 ≤ R; omega, by show d + 1 ≤ c + 1; omega, fun i hi hR j hj => ?_, fun hd i hi j hj => ?_⟩
    · have hi' : d + 1 ≤ i := hi
      show gone R d c p f i j = 0
      by_cases hjc : j = c
      · subst hjc; rw [gone_c R d j p f i h1 hR hne, if_neg (by omega)]
      · rw [hg i hR j (by omega)]; exact raise_zero (fun k k1 k2 => h4 k k1 k2 j (by omega)) hp hdp i (by omega) hR
    · have hd' : d = c := by have : d + 1 = c + 1 := hd; omega
      show gone R d c p f i j = _
      by_cases hjc : j = c
      · subst hjc; rw [gone_c R d j p f i h1 hi hne, hd']
      · rw [hg i hi j (by omega)]
        by_cases hid : i < d
        · rw [raise_low hid]; exact h5 hd' i hi j (by omega)
        · rw [raise_zero (fun k k1 k2 => h4 k k1 k2 j (by omega)) hp hdp i (by omega) hi, if_neg (by omega)]
theorem inv_steps (R : Nat) (f : M) (hb : Byt f) : ∀ c, Inv R c (steps R f c)
  | 0 => inv_start R f hb
  | c + 1 => inv_step R c _ (inv_steps R f hb c)
/-- columns chosen: the same steps -/
def Agree (R : Nat) (J : Nat → Prop) (s : Nat → Nat) (f f' : M) : Prop := ∀ i, i < R → ∀ j, J j → f' i j = f i (s j)
theorem seek_agree {R : Nat} {J : Nat → Prop} {s : Nat → Nat} {f f' : M} (h : Agree R J s f f') {c : Nat} (hc : J c) (hs : s c = c) : ∀ n i, i + n ≤ R → seek f' c n i = seek f c n i
  | 0, i, _ => rfl
  | n + 1, i, hi => by
    have e : f' i c = f i c := by rw [h i (by omega) c hc, hs]
    unfold seek; rw [e, seek_agree h hc hs n (i + 1) (by omega)]
theorem raise_agree {R : Nat} {J : Nat → Prop} {s : Nat → Nat} {f f' : M} (h : Agree R J s f f') {d p : Nat} (hp : p < R) : Agree R J s (raiseF d p f) (raiseF d p f') := fun i hi j hj => by
  unfold raiseF; split
  · exact h p hp j hj
  · split
    · exact h _ (by omega) j hj
    · exact h _ hi j hj
theorem gone_agree {R : Nat} {J : Nat → Prop} {s : Nat → Nat} {f f' : M} (h : Agree R J s f f') {d c p : Nat} (hc : J c) (hs : s c = c) (hp : p < R) : Agree R J s (gone R d c p f) (gone R d c p f') := fun i hi j hj => by
  have e : f' p c = f p c := by rw [h p hp c hc, hs]
  by_cases hd : i = d
  · subst hd; rw [gone_d, gone_d, h p hp j hj, e]
  · have hr := raise_agree h (d := d) hp
    rw [gone_o R d c p f' i j hi hd, gone_o R d c p f i (s j) hi hd, hr i hi j hj, hr i hi c hc, hs, h p hp j hj, e]
theorem steps_agree {R n : Nat} {J : Nat → Prop} {s : Nat → Nat} {f f' : M} (hJ : ∀ j, j < n → J j ∧ s j = j) (hb : Byt f) (h : Agree R J s f f') : ∀ c, c ≤ n → (steps R f' c).2 = (steps R f c).2 ∧ Agree R J s (steps R f c).1 (steps R f' c).1
  | 0, _ => ⟨rfl, h⟩
  | c + 1, hc => by
    obtain ⟨i1, i2⟩ := steps_agree hJ hb h c (by omega)
    have hi := inv_steps R f hb c
    obtain ⟨j1, j2⟩ := hJ c (by omega)
    have hle := hi.le
    simp only [steps, step]
    rw [i1, seek_agree i2 j1 j2 (R - (steps R f c).2) (steps R f c).2 (by omega)]
    by_cases hs : seek (steps R f c).1 c (R - (steps R f c).2) (steps R f c).2 < R
    · rw [if_pos hs, if_pos hs]; exact ⟨rfl, gone_agree i2 j1 j2 hs⟩
    · rw [if_neg hs, if_neg hs]; exact ⟨i1, i2⟩
/-- behind the last row nothing turns -/
theorem steps_stop (R : Nat) (f : M) (c : Nat) (h : (steps R f c).2 = R) : ∀ k, steps R f (c + k) = steps R f c
  | 0 => rfl
  | k + 1 => by
    have ih := steps_stop R f c h k
    show step R (c + k) (steps R f (c + k)) = _
    rw [ih]
    have := step_none R (c + k) R (steps R f c).1 (Nat.le_refl _) (fun k h1 h2 => by omega)
    have e : steps R f c = ((steps R f c).1, R) := Prod.ext rfl h
    rw [e]; exact this
end El
end Go.Proofs.Ytjgjcbgeekfkkaa
