/- What follows of stepping down: the matrix turned about, from both sides; turned about twice; what is solved. No program in it. -/
import Derived.Test.YtjgjcbgeekfkkaaElim
namespace Go.Proofs.Ytjgjcbgeekfkkaa
namespace El
open Fld
structure Lin (P : (Nat → Nat) → Prop) : Prop where
  sc : ∀ a u, a < 256 → B1 u → P u → P (fun j => mul (u j) a)
  ad : ∀ b u v, b < 256 → B1 u → B1 v → P u → P v → P (fun j => u j ^^^ mul b (v j))
/-- where row i of the raised ones stood -/
def was (d p i : Nat) : Nat := if i = d then p else if d < i ∧ i ≤ p then i - 1 else i
theorem raise_was (d p : Nat) (f : M) (i : Nat) : raiseF d p f i = f (was d p i) := by
  unfold raiseF was; split
  · rfl
  · split <;> rfl
theorem was_lt {R d p i : Nat} (hp : p < R) (hi : i < R) : was d p i < R := by unfold was; split <;> (try split) <;> omega
theorem was_inj {d p i k : Nat} (hd : d ≤ p) (h : was d p i = was d p k) : i = k := by
  unfold was at h
  by_cases h1 : i = d
  · rw [if_pos h1] at h
    by_cases h2 : k = d
    · omega
    · rw [if_neg h2] at h
      by_cases h4 : d < k ∧ k ≤ p
      · rw [if_pos h4] at h; omega
      · rw [if_neg h4] at h; omega
  · rw [if_neg h1] at h
    by_cases h3 : d < i ∧ i ≤ p
    · rw [if_pos h3] at h
      by_cases h2 : k = d
      · rw [if_pos h2] at h; omega
      · rw [if_neg h2] at h
        by_cases h4 : d < k ∧ k ≤ p
        · rw [if_pos h4] at h; omega
        · rw [if_neg h4] at h; omega
    · rw [if_neg h3] at h
      by_cases h2 : k = d
      · rw [if_pos h2] at h; omega
      · rw [if_neg h2] at h
        by_cases h4 : d < k ∧ k ≤ p
        · rw [if_pos h4] at h; omega
        · rw [if_neg h4] at h; omega
theorem lin_fwd {P : (Nat → Nat) → Prop} (hP : Lin P) {R d c p : Nat} {f : M} (hb : Byt f) (hp : p < R) (hR : d ≤ p) (h : ∀ i, i < R → P (f i)) : ∀ i, i < R → P (gone R d c p f i) := fun i hi => by
  have hd : P (gone R d c p f d) := by
    have e : gone R d c p f d = fun j => mul (f p j) (inv (f p c)) := funext fun j => gone_d R d c p f j
    rw [e]; exact hP.sc _ _ (inv_lt _) (hb p) (h p hp)
  by_cases hid : i = d
  · subst hid; exact hd
  · have hr : P (raiseF d p f i) := by
      rw [raise_was]; exact h _ (was_lt hp hi)
    have e : gone R d c p f i = fun j => raiseF d p f i j ^^^ mul (raiseF d p f i c) (gone R d c p f d j) := funext fun j => by
      rw [gone_o R d c p f i j hi hid, gone_d]
    rw [e]
    exact hP.ad _ _ _ (byt_raise hb _ _ _ _) (byt_raise hb _ _ i) (byt_gone hb R d c p d) hr hd
theorem mul_inv_back {x a : Nat} (hx : x < 256) (ha : a < 256) (h0 : a ≠ 0) : mul (mul x (inv a)) a = x := by
  rw [mul_assoc hx (inv_lt a) ha, mul_comm (inv a) a, mul_inv ha h0, mul_one hx]
theorem lin_bwd {P : (Nat → Nat) → Prop} (hP : Lin P) {R d c p : Nat} {f : M} (hb : Byt f) (hp : p < R) (hR : d ≤ p) (hne : f p c ≠ 0) (h : ∀ i, i < R → P (gone R d c p f i)) : ∀ i, i < R → P (f i) := by
  have hpp : P (f p) := by
    have e : f p = fun j => mul (gone R d c p f d j) (f p c) := funext fun j => by
      rw [gone_d, mul_inv_back (hb _ _) (hb _ _) hne]
    rw [e]; exact hP.sc _ _ (hb _ _) (byt_gone hb R d c p d) (h d (by omega))
  have hr : ∀ i, i < R → i ≠ d → P (raiseF d p f i) := fun i hi hid => by
    have e : raiseF d p f i = fun j => gone R d c p f i j ^^^ mul (raiseF d p f i c) (gone R d c p f d j) := funext fun j => by
      rw [gone_o R d c p f i j hi hid, gone_d, Nat.xor_assoc, Nat.xor_self, Nat.xor_zero]
    rw [e]
    exact hP.ad _ _ _ (byt_raise hb _ _ _ _) (byt_gone hb R d c p i) (byt_gone hb R d c p d) (h i hi) (h d (by omega))
  intro i hi
  by_cases h1 : i = p
  · subst h1; exact hpp
  by_cases h2 : d ≤ i ∧ i < p
  · have := hr (i + 1) (by omega) (by omega)
    rw [raise_was] at this
    unfold was at this
    rw [if_neg (by omega), if_pos (by omega), Nat.add_sub_cancel] at this
    exact this
  · have := hr i hi (by omega)
    rw [raise_was] at this
    unfold was at this
    rw [if_neg (by omega), if_neg (by omega)] at this
    exact this
theorem lin_steps {P : (Nat → Nat) → Prop} (hP : Lin P) {R : Nat} {f : M} (hb : Byt f) : ∀ c, ((∀ i, i < R → P (f i)) ↔ ∀ i, i < R → P ((steps R f c).1 i))
  | 0 => Iff.rfl
  | c + 1 => by
    have ih := lin_steps hP hb (R := R) c
    have hi := inv_steps R f hb c
    rw [ih]
    simp only [steps]
    rcases step_cases R c (steps R f c).1 (steps R f c).2 hi.le with ⟨e, _⟩ | ⟨p, k1, k2, k3, e⟩
    · rw [show steps R f c = ((steps R f c).1, (steps R f c).2) from rfl, e]
    · rw [show step R c (steps R f c) = _ from e]
      exact ⟨fun h => lin_fwd hP hi.byt k2 k1 h, fun h => lin_bwd hP hi.byt k2 k1 k3 h⟩
/-- the sum of the first n -/
def xs : Nat → (Nat → Nat) → Nat
  | 0, _ => 0
  | k + 1, g => xs k g ^^^ g k
theorem xs_lt {g : Nat → Nat} (h : B1 g) : ∀ n, xs n g < 256
  | 0 => by show 0 < 256; decide
  | n + 1 => xor_lt (xs_lt h n) (h n)
theorem xs_congr {g g' : Nat → Nat} : ∀ n, (∀ k, k < n → g k = g' k) → xs n g = xs n g'
  | 0, _ => rfl
  | n + 1, h => by rw [xs, xs, xs_congr n (fun k hk => h k (by omega)), h n (by omega)]
theorem xs_xor (g g' : Nat → Nat) : ∀ n, xs n (fun k => g k ^^^ g' k) = xs n g ^^^ xs n g'
  | 0 => by simp [xs]
  | n + 1 => by rw [xs, xs, xs, xs_xor g g' n, xor_ac]
theorem xs_mul {g : Nat → Nat} (a : Nat) (h : B1 g) : ∀ n, xs n (fun k => mul a (g k)) = mul a (xs n g)
  | 0 => by rw [xs, xs, mul_zero]
  | n + 1 => by rw [xs, xs, xs_mul a h n, mul_xor (xs_lt h n) (h n)]
theorem xs_zero : ∀ n, xs n (fun _ => 0) = 0
  | 0 => rfl
  | n + 1 => by rw [xs, xs_zero n]; rfl
theorem one_mul {a : Nat} (h : a < 256) : mul 1 a = a := by rw [mul_comm, mul_one h]
theorem xs_pick {g : Nat → Nat} (hg : B1 g) (i : Nat) : ∀ n, xs n (fun k => mul (if i = k then 1 else 0) (g k)) = if i < n then g i else 0
  | 0 => by rw [if_neg (by omega)]; rfl
  | n + 1 => by
    rw [xs, xs_pick hg i n]
    by_cases h1 : i = n
    · subst h1; rw [if_neg (by omega), if_pos rfl, if_pos (by omega), one_mul (hg _), Nat.zero_xor]
    · rw [if_neg h1, zero_mul, Nat.xor_zero]
      by_cases h2 : i < n
      · rw [if_pos h2, if_pos (by omega)]
      · rw [if_neg h2, if_neg (by omega)]
/-- what stands at one place is a sum of products of what stands at others: that is linear -/
theorem lin_sum (n : Nat) (J : Nat → Prop) (at_ : Nat → Nat) (from_ : Nat → Nat) (g : Nat → Nat → Nat) (hg : ∀ j k, g j k < 256) :
    Lin (fun u => ∀ j, J j → u (at_ j) = xs n (fun k => mul (u (from_ k)) (g j k))) := by
  refine ⟨fun a u ha hu h j hj => ?_, fun b u v hb hu hv h1 h2 j hj => ?_⟩
  · show mul (u (at_ j)) a = xs n (fun k => mul (mul (u (from_ k)) a) (g j k))
    rw [h j hj, mul_comm _ a, ← xs_mul a (fun k => mul_lt _ _)]
    exact xs_congr n fun k _ => by rw [mul_comm (u (from_ k)) a, mul_assoc ha (hu _) (hg _ _)]
  · show u (at_ j) ^^^ mul b (v (at_ j)) = xs n (fun k => mul (u (from_ k) ^^^ mul b (v (from_ k))) (g j k))
    rw [h1 j hj, h2 j hj, ← xs_mul b (fun k => mul_lt _ _), ← xs_xor]
    exact xs_congr n fun k _ => by rw [mul_comm (u (from_ k) ^^^ _), mul_xor (hu _) (mul_lt _ _), mul_comm (g j k) (u _), mul_comm (g j k) (mul b _), mul_assoc hb (hv _) (hg _ _)]
/-- a linear function of rows -/
structure LinF (φ : (Nat → Nat) → Nat) : Prop where
  lt : ∀ u, B1 u → φ u < 256
  sc : ∀ a u, a < 256 → B1 u → φ (fun j => mul (u j) a) = mul (φ u) a
  ad : ∀ b u v, b < 256 → B1 u → B1 v → φ (fun j => u j ^^^ mul b (v j)) = φ u ^^^ mul b (φ v)
theorem LinF.scale {φ : (Nat → Nat) → Nat} (h : LinF φ) {s : Nat} (hs : s < 256) : LinF (fun u => mul s (φ u)) := by
  refine ⟨fun u _ => mul_lt _ _, fun a u ha hu => ?_, fun b u v hb hu hv => ?_⟩
  · rw [h.sc a u ha hu, mul_assoc hs (h.lt u hu) ha]
  · rw [h.ad b u v hb hu hv, mul_xor (h.lt u hu) (mul_lt _ _), ← mul_assoc hs hb (h.lt v hv), mul_comm s b, mul_assoc hb hs (h.lt v hv)]
theorem LinF.plus {φ ψ : (Nat → Nat) → Nat} (h : LinF φ) (k : LinF ψ) : LinF (fun u => φ u ^^^ ψ u) := by
  refine ⟨fun u hu => xor_lt (h.lt u hu) (k.lt u hu), fun a u ha hu => ?_, fun b u v hb hu hv => ?_⟩
  · rw [h.sc a u ha hu, k.sc a u ha hu, mul_comm _ a, mul_comm _ a, mul_comm _ a, mul_xor (h.lt u hu) (k.lt u hu)]
  · rw [h.ad b u v hb hu hv, k.ad b u v hb hu hv, mul_xor (h.lt v hv) (k.lt v hv), xor_ac]
/-- for each row a linear function that is 1 of it and 0 of all others -/
def Dual (R : Nat) (f : M) : Prop := ∀ i, i < R → ∃ φ, LinF φ ∧ ∀ k, k < R → φ (f k) = if k = i then 1 else 0
theorem dual_raise {R d p : Nat} {f : M} (hp : p < R) (hd : d ≤ p) (h : Dual R f) : Dual R (raiseF d p f) := fun i hi => by
  obtain ⟨φ, h1, h2⟩ := h _ (was_lt (d := d) hp hi)
  refine ⟨φ, h1, fun k hk => ?_⟩
  rw [raise_was, h2 _ (was_lt hp hk)]
  by_cases he : k = i
  · subst he; rw [if_pos rfl, if_pos rfl]
  · rw [if_neg he, if_neg (fun hh => he (was_inj hd hh))]
theorem dual_one {R d c : Nat} {f : M} (hb : Byt f) (hne : f d c ≠ 0) (h : Dual R f) : Dual R (oneF d c f) := fun i hi => by
  obtain ⟨φ, h1, h2⟩ := h i hi
  have ed : oneF d c f d = fun j => mul (f d j) (inv (f d c)) := funext fun j => by unfold oneF; rw [if_pos rfl]
  have eo : ∀ k, k ≠ d → oneF d c f k = f k := fun k hk => funext fun j => by unfold oneF; rw [if_neg hk]
  by_cases hid : i = d
  · subst hid
    refine ⟨fun u => mul (f i c) (φ u), h1.scale (hb _ _), fun k hk => ?_⟩
    by_cases he : k = i
    · subst he
      show mul (f k c) (φ (oneF k c f k)) = _
      rw [ed, h1.sc _ _ (inv_lt _) (hb k), h2 k hk, if_pos rfl, one_mul (inv_lt _), mul_inv (hb _ _) hne]
    · show mul (f i c) (φ (oneF i c f k)) = _
      rw [eo k he, h2 k hk, if_neg he, mul_zero]
  · refine ⟨φ, h1, fun k hk => ?_⟩
    by_cases he : k = d
    · subst he
      rw [ed, h1.sc _ _ (inv_lt _) (hb k), h2 k hk, if_neg (Ne.symm hid), zero_mul]
    · rw [eo k he, h2 k hk]
theorem dual_off {R d c n : Nat} {f : M} (hb : Byt f) (hd : d < R) (hn : n < R) (hnd : n ≠ d) (h : Dual R f) : Dual R (offF d c n f) := fun i hi => by
  obtain ⟨φ, h1, h2⟩ := h i hi
  have en : offF d c n f n = fun j => f n j ^^^ mul (f n c) (f d j) := funext fun j => by unfold offF; rw [if_pos rfl]
  have eo : ∀ k, k ≠ n → offF d c n f k = f k := fun k hk => funext fun j => by unfold offF; rw [if_neg hk]
  by_cases hid : i = d
  · subst hid
    obtain ⟨ψ, k1, k2⟩ := h n hn
    refine ⟨fun u => φ u ^^^ mul (f n c) (ψ u), h1.plus (k1.scale (hb _ _)), fun k hk => ?_⟩
    show φ (offF i c n f k) ^^^ mul (f n c) (ψ (offF i c n f k)) = _
    by_cases he : k = n
    · subst he
      rw [en, h1.ad _ _ _ (hb _ _) (hb k) (hb i), k1.ad _ _ _ (hb _ _) (hb k) (hb i), h2 k hk, h2 i hd, k2 k hk, k2 i hd, if_neg hnd, if_pos rfl, if_pos rfl, if_neg (Ne.symm hnd), mul_zero, Nat.zero_xor, Nat.xor_zero, mul_one (hb _ _), Nat.xor_self]
    · rw [eo k he, h2 k hk, k2 k hk, if_neg he, mul_zero, Nat.xor_zero]
  · refine ⟨φ, h1, fun k hk => ?_⟩
    by_cases he : k = n
    · subst he
      rw [en, h1.ad _ _ _ (hb _ _) (hb k) (hb d), h2 k hk, h2 d hd, if_neg (Ne.symm hid), mul_zero, Nat.xor_zero]
    · rw [eo k he, h2 k hk]
theorem dual_offT {R d c : Nat} {f : M} (hb : Byt f) (hd : d < R) (h : Dual R f) : ∀ n, n ≤ R → Dual R (offT d c n f)
  | 0, _ => by rw [offT_zero]; exact h
  | n + 1, hn => by
    have ih := dual_offT (c := c) hb hd h n (by omega)
    rw [offT_succ]
    by_cases he : n = d
    · rw [if_pos he]; exact ih
    · rw [if_neg he]; exact dual_off (byt_offT hb _ _ _) hd (by omega) he ih
theorem dual_steps {R : Nat} {f : M} (hb : Byt f) (h : Dual R f) : ∀ c, Dual R (steps R f c).1
  | 0 => h
  | c + 1 => by
    have ih := dual_steps hb h c
    have hi := inv_steps R f hb c
    simp only [steps]
    rcases step_cases R c (steps R f c).1 (steps R f c).2 hi.le with ⟨e, _⟩ | ⟨p, k1, k2, k3, e⟩
    · rw [show steps R f c = ((steps R f c).1, (steps R f c).2) from rfl, e]; exact ih
    · rw [show step R c (steps R f c) = _ from e]
      exact dual_offT (byt_one (byt_raise hi.byt _ _) _ _) (by omega) (dual_one (byt_raise hi.byt _ _) (by rw [raise_at]; exact k3) (dual_raise k2 k1 ih)) R (Nat.le_refl _)
/-- beside it the one that has 1 where row and column are the same -/
def wide (n : Nat) (m : M) : M := fun i j => if j < n then m i j else if j = n + i then 1 else 0
theorem byt_wide {m : M} (n : Nat) (h : Byt m) : Byt (wide n m) := fun i j => by
  unfold wide; split
  · exact h _ _
  · split <;> decide
/-- turned about -/
def inve (n : Nat) (m : M) : M := fun i j => (steps n (wide n m) n).1 i (n + j)
def rank (R n : Nat) (m : M) : Nat := (steps R m n).2
theorem byt_steps {R : Nat} {f : M} (h : Byt f) (c : Nat) : Byt (steps R f c).1 := (inv_steps R f h c).byt
theorem byt_inve {m : M} (n : Nat) (h : Byt m) : Byt (inve n m) := fun i j => byt_steps (byt_wide n h) n i (n + j)
theorem rank_wide (n : Nat) (m : M) (h : Byt m) : (steps n (wide n m) n).2 = rank n n m :=
  (steps_agree (J := fun j => j < n) (s := id) (fun j hj => ⟨hj, rfl⟩) h (fun i _ j hj => by show wide n m i j = m i j; unfold wide; rw [if_pos hj]) n (Nat.le_refl _)).1
theorem left_unit {R n : Nat} {f : M} (hb : Byt f) (h : (steps R f n).2 = n) : ∀ i, i < R → ∀ j, j < n → (steps R f n).1 i j = if i = j then 1 else 0 := (inv_steps R f hb n).unit h
theorem add_inj (n i k : Nat) : (n + k = n + i) = (i = k) := by apply propext; omega
/-- the product of it turned about and it -/
theorem inve_mul {n : Nat} {m : M} (hb : Byt m) (h : rank n n m = n) {i j : Nat} (hi : i < n) (hj : j < n) : xs n (fun k => mul (inve n m i k) (m k j)) = if i = j then 1 else 0 := by
  have hw := byt_wide n hb
  have hr : (steps n (wide n m) n).2 = n := by rw [rank_wide n m hb, h]
  have hl := (lin_steps (lin_sum n (fun j => j < n) id (fun k => n + k) (fun j k => m k j) (fun _ _ => hb _ _)) hw (R := n) n).1 (fun i hi j hj => by
    show wide n m i j = xs n (fun k => mul (wide n m i (n + k)) (m k j))
    have e : ∀ k, wide n m i (n + k) = if i = k then 1 else 0 := fun k => by
      unfold wide; rw [if_neg (by omega)]; simp only [add_inj]
    simp only [e]
    rw [xs_pick (fun k => hb k j), if_pos hi]; unfold wide; rw [if_pos hj]) i hi j hj
  rw [← left_unit hw hr i hi j hj]
  exact hl.symm
/-- the product of it and it turned about -/
theorem mul_inve {n : Nat} {m : M} (hb : Byt m) (h : rank n n m = n) {i j : Nat} (hi : i < n) (hj : j < n) : xs n (fun k => mul (m i k) (inve n m k j)) = if i = j then 1 else 0 := by
  have hw := byt_wide n hb
  have hr : (steps n (wide n m) n).2 = n := by rw [rank_wide n m hb, h]
  have hl := (lin_steps (lin_sum n (fun j => j < n) (fun j => n + j) id (fun j k => inve n m k j) (fun _ _ => byt_inve n hb _ _)) hw (R := n) n).2 (fun i hi j hj => by
    show inve n m i j = xs n (fun k => mul ((steps n (wide n m) n).1 i k) (inve n m k j))
    rw [xs_congr (g' := fun k => mul (if i = k then 1 else 0) (inve n m k j)) n (fun k hk => by rw [left_unit hw hr i hi k hk]), xs_pick (fun k => byt_inve n hb k j), if_pos hi]) i hi j hj
  have e1 : wide n m i (n + j) = if i = j then 1 else 0 := by unfold wide; rw [if_neg (by omega)]; simp only [add_inj]
  have e2 : wide n m i (n + j) = xs n (fun k => mul (wide n m i k) (inve n m k j)) := hl
  rw [← e1, e2]
  exact xs_congr n fun k hk => by unfold wide; rw [if_pos hk]
theorem dual_wide (n : Nat) (m : M) : Dual n (wide n m) := fun i hi => by
  refine ⟨fun u => u (n + i), ⟨fun u hu => hu _, fun _ _ _ _ => rfl, fun _ _ _ _ _ _ => rfl⟩, fun k hk => ?_⟩
  show wide n m k (n + i) = _
  unfold wide; rw [if_neg (by omega)]
  simp only [add_inj]
/-- what has an inverse can be turned about, and is turned about into it -/
theorem has_inve {n : Nat} {t m : M} (ht : Byt t) (hm : Byt m) (h : ∀ i, i < n → ∀ j, j < n → xs n (fun k => mul (t i k) (m k j)) = if i = j then 1 else 0) : rank n n t = n ∧ ∀ i, i < n → ∀ j, j < n → inve n t i j = m i j := by
  have hw := byt_wide n ht
  have hI := inv_steps n (wide n t) hw n
  have hl := (lin_steps (lin_sum n (fun j => j < n) (fun j => n + j) id (fun j k => m k j) (fun _ _ => hm _ _)) hw (R := n) n).1 (fun i hi j hj => by
    show wide n t i (n + j) = xs n (fun k => mul (wide n t i k) (m k j))
    have e1 : wide n t i (n + j) = if i = j then 1 else 0 := by unfold wide; rw [if_neg (by omega)]; simp only [add_inj]
    rw [e1, ← h i hi j hj]
    exact xs_congr n fun k hk => by unfold wide; rw [if_pos hk])
  have hr : (steps n (wide n t) n).2 = n := by
    by_cases hlt : (steps n (wide n t) n).2 < n
    · exfalso
      obtain ⟨φ, h1, h2⟩ := dual_steps hw (dual_wide n t) n _ hlt
      have hz : ∀ j, j < n → (steps n (wide n t) n).1 (steps n (wide n t) n).2 j = 0 := hI.zero _ (Nat.le_refl _) hlt
      have hz2 : ∀ j, j < n → (steps n (wide n t) n).1 (steps n (wide n t) n).2 (n + j) = 0 := fun j hj => by
        have := hl _ hlt j hj
        have e : (steps n (wide n t) n).1 (steps n (wide n t) n).2 (n + j) = xs n (fun k => mul ((steps n (wide n t) n).1 (steps n (wide n t) n).2 k) (m k j)) := this
        rw [e, xs_congr (g' := fun _ => 0) n (fun k hk => by rw [hz k hk, zero_mul]), xs_zero]
      have hz3 : ∀ j, 2 * n ≤ j → (steps n (wide n t) n).1 (steps n (wide n t) n).2 j = 0 := fun j hj => by
        have hP : Lin (fun u => u j = 0) := ⟨fun a u _ _ h => by show mul (u j) a = 0; rw [h, zero_mul], fun b u v _ _ _ h1 h2 => by show u j ^^^ mul b (v j) = 0; rw [h1, h2, mul_zero]; rfl⟩
        exact (lin_steps hP hw (R := n) n).1 (fun i hi => by show wide n t i j = 0; unfold wide; rw [if_neg (by omega), if_neg (by omega)]) _ hlt
      have hall : (steps n (wide n t) n).1 (steps n (wide n t) n).2 = fun _ => mul 0 0 := funext fun j => by
        rw [mul_zero]
        by_cases a : j < n
        · exact hz j a
        · by_cases b : j < 2 * n
          · have := hz2 (j - n) (by omega); rw [show n + (j - n) = j by omega] at this; exact this
          · exact hz3 j (by omega)
      have h3 := h2 _ hlt
      rw [if_pos rfl, hall, h1.sc 0 (fun _ => 0) (by decide) (fun _ => by show 0 < 256; decide), mul_zero] at h3
      exact absurd h3 (by decide)
    · have := hI.le; omega
  refine ⟨by rw [← rank_wide n t ht, hr], fun i hi j hj => ?_⟩
  have e : inve n t i j = xs n (fun k => mul ((steps n (wide n t) n).1 i k) (m k j)) := hl i hi j hj
  rw [e, xs_congr (g' := fun k => mul (if i = k then 1 else 0) (m k j)) n (fun k hk => by rw [left_unit hw hr i hi k hk]), xs_pick (fun k => hm k j), if_pos hi]
theorem inve_twice {n : Nat} {m : M} (hb : Byt m) (h : rank n n m = n) : rank n n (inve n m) = n ∧ ∀ i, i < n → ∀ j, j < n → inve n (inve n m) i j = m i j :=
  has_inve (byt_inve n hb) hb fun _ hi _ hj => inve_mul hb h hi hj
/-- beside it one list -/
def wide1 (n : Nat) (m : M) (v : Nat → Nat) : M := fun i j => if j < n then m i j else v i
theorem byt_wide1 {m : M} {v : Nat → Nat} (n : Nat) (h : Byt m) (hv : B1 v) : Byt (wide1 n m v) := fun i j => by
  unfold wide1; split
  · exact h _ _
  · exact hv _
theorem rank_wide1 (n : Nat) (m : M) (v : Nat → Nat) (h : Byt m) : (steps n (wide1 n m v) n).2 = rank n n m :=
  (steps_agree (J := fun j => j < n) (s := id) (fun j hj => ⟨hj, rfl⟩) h (fun i _ j hj => by show wide1 n m v i j = m i j; unfold wide1; rw [if_pos hj]) n (Nat.le_refl _)).1
def prod (n : Nat) (m : M) (v : Nat → Nat) : Nat → Nat := fun i => xs n (fun k => mul (m i k) (v k))
/-- both, and the list -/
def wide2 (n : Nat) (m : M) (v : Nat → Nat) : M := fun i j => if j < 2 * n then wide n m i j else v i
theorem solved_is {n : Nat} {m : M} {v : Nat → Nat} (hb : Byt m) (hv : B1 v) {i : Nat} (hi : i < n) : (steps n (wide1 n m v) n).1 i n = prod n (inve n m) v i := by
  have hw : Byt (wide2 n m v) := fun i j => by
    unfold wide2; split
    · exact byt_wide n hb _ _
    · exact hv _
  have a1 := (steps_agree (R := n) (n := n) (J := fun j => j < 2 * n) (s := id) (f := wide2 n m v) (f' := wide n m) (fun j hj => ⟨by omega, rfl⟩) hw (fun i _ j hj => by show wide n m i j = wide2 n m v i j; unfold wide2; rw [if_pos hj]) n (Nat.le_refl _)).2
  have a2 := (steps_agree (R := n) (n := n) (J := fun j => j ≤ n) (s := fun j => if j < n then j else 2 * n) (f := wide2 n m v) (f' := wide1 n m v) (fun j hj => ⟨by omega, if_pos hj⟩) hw (fun i _ j hj => by
    show wide1 n m v i j = wide2 n m v i (if j < n then j else 2 * n)
    by_cases h : j < n
    · rw [if_pos h]; unfold wide1 wide2 wide; rw [if_pos h, if_pos (by omega), if_pos h]
    · rw [if_neg h]; unfold wide1 wide2; rw [if_neg h, if_neg (by omega)]) n (Nat.le_refl _)).2
  have hl := (lin_steps (lin_sum n (fun _ => True) (fun _ => 2 * n) (fun k => n + k) (fun _ k => v k) (fun _ _ => hv _)) hw (R := n) n).1 (fun i hi _ _ => by
    show wide2 n m v i (2 * n) = xs n (fun k => mul (wide2 n m v i (n + k)) (v k))
    have e : ∀ k, k < n → wide2 n m v i (n + k) = if i = k then 1 else 0 := fun k hk => by
      unfold wide2 wide; rw [if_pos (by omega), if_neg (by omega)]; simp only [add_inj]
    rw [xs_congr (g' := fun k => mul (if i = k then 1 else 0) (v k)) n (fun k hk => by rw [e k hk]), xs_pick hv, if_pos hi]; unfold wide2; rw [if_neg (by omega)]) i hi 0 trivial
  have e1 : (steps n (wide1 n m v) n).1 i n = (steps n (wide2 n m v) n).1 i (if n < n then n else 2 * n) := a2 i hi n (Nat.le_refl _)
  rw [if_neg (by omega)] at e1
  rw [e1]
  have e2 : (steps n (wide2 n m v) n).1 i (2 * n) = xs n (fun k => mul ((steps n (wide2 n m v) n).1 i (n + k)) (v k)) := hl
  rw [e2]
  unfold prod inve
  exact xs_congr n fun k hk => by rw [a1 i hi (n + k) (by omega)]; rfl
/-- the product of it and what is solved -/
theorem prod_solved {n : Nat} {m : M} {v : Nat → Nat} (hb : Byt m) (hv : B1 v) (h : rank n n m = n) {i : Nat} (hi : i < n) : prod n m (prod n (inve n m) v) i = v i := by
  have hw := byt_wide1 n hb hv
  have hr : (steps n (wide1 n m v) n).2 = n := by rw [rank_wide1 n m v hb, h]
  have hx : B1 (prod n (inve n m) v) := fun i => xs_lt (fun k => mul_lt _ _) n
  have hl := (lin_steps (lin_sum n (fun _ => True) (fun _ => n) id (fun _ k => prod n (inve n m) v k) (fun _ _ => hx _)) hw (R := n) n).2 (fun i hi _ _ => by
    show (steps n (wide1 n m v) n).1 i n = xs n (fun k => mul ((steps n (wide1 n m v) n).1 i k) (prod n (inve n m) v k))
    rw [xs_congr (g' := fun k => mul (if i = k then 1 else 0) (prod n (inve n m) v k)) n (fun k hk => by rw [left_unit hw hr i hi k hk]), xs_pick hx, if_pos hi, solved_is hb hv hi]) i hi 0 trivial
  have e2 : wide1 n m v i n = xs n (fun k => mul (wide1 n m v i k) (prod n (inve n m) v k)) := hl
  have e3 : wide1 n m v i n = v i := by unfold wide1; rw [if_neg (by omega)]
  rw [← e3, e2]
  show xs n (fun k => mul (m i k) (prod n (inve n m) v k)) = _
  exact xs_congr n fun k hk => by unfold wide1; rw [if_pos hk]
end El
end Go.Proofs.Ytjgjcbgeekfkkaa
