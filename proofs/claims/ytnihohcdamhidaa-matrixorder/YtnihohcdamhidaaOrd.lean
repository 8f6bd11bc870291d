/- Matrices over the field: products in any brackets, one, rows of products. No program in it. -/
import Derived.Test.YtnihohcdamhidaaRRows
import Derived.Test.YtnihohcdamhidaaCodes
namespace Go.Proofs.Ytnihohcdamhidaa
def xsum : Nat → (Nat → Nat) → Nat
  | 0, _ => 0
  | n + 1, f => xsum n f ^^^ f n
theorem xsum_congr {n : Nat} {f g : Nat → Nat} (h : ∀ i, i < n → f i = g i) : xsum n f = xsum n g := by
  induction n with
  | zero => rfl
  | succ n ih => simp only [xsum]; rw [ih (fun i hi => h i (by omega)), h n (by omega)]
theorem xsum_lt {n : Nat} {f : Nat → Nat} (h : ∀ i, i < n → f i < 256) : xsum n f < 256 := by
  induction n with
  | zero => exact (by decide : 0 < 256)
  | succ n ih => exact Fld.xor_lt (ih (fun i hi => h i (by omega))) (h n (by omega))
theorem xsum_xor (n : Nat) (f g : Nat → Nat) : xsum n (fun i => f i ^^^ g i) = xsum n f ^^^ xsum n g := by
  induction n with
  | zero => simp [xsum]
  | succ n ih => simp only [xsum]; rw [ih, Fld.xor_ac]
theorem xsum_zero (n : Nat) : xsum n (fun _ => 0) = 0 := by
  induction n with
  | zero => rfl
  | succ n ih => simp only [xsum]; rw [ih]; rfl
theorem mul_xsum (x n : Nat) (f : Nat → Nat) (h : ∀ i, i < n → f i < 256) : Fld.mul x (xsum n f) = xsum n (fun i => Fld.mul x (f i)) := by
  induction n with
  | zero => exact Fld.mul_zero x
  | succ n ih => simp only [xsum]; rw [Fld.mul_xor (xsum_lt (fun i hi => h i (by omega))) (h n (by omega)), ih (fun i hi => h i (by omega))]
theorem xsum_swap (n m : Nat) (f : Nat → Nat → Nat) : xsum n (fun i => xsum m (fun k => f i k)) = xsum m (fun k => xsum n (fun i => f i k)) := by
  induction n with
  | zero => exact (xsum_zero m).symm
  | succ n ih => simp only [xsum]; rw [ih, xsum_xor]
theorem xsum_one (n j : Nat) (f : Nat → Nat) (hj : j < n) (h : ∀ i, i < n → i ≠ j → f i = 0) : xsum n f = f j := by
  induction n with
  | zero => omega
  | succ n ih =>
    simp only [xsum]
    by_cases e : j = n
    · subst e
      rw [xsum_congr (g := fun _ => 0) (fun i hi => h i (by omega) (by omega)), xsum_zero]; simp
    · rw [ih (by omega) (fun i hi hij => h i (by omega) hij), h n (by omega) (by omega)]; simp
theorem dotTo_xsum (a b : List Nat) (k : Nat) : dotTo a b k = xsum k (fun i => Fld.mul (a.getD i 0) (b.getD i 0)) := by
  induction k with
  | zero => rfl
  | succ k ih => simp only [dotTo, xsum]; rw [ih]
/-- sums of products in either brackets -/
theorem key (n m : Nat) (r : Nat → Nat) (b : Nat → Nat → Nat) (v : Nat → Nat) (hr : ∀ i, i < n → r i < 256) (hb : ∀ i k, i < n → k < m → b i k < 256) (hv : ∀ k, k < m → v k < 256) :
    xsum n (fun i => Fld.mul (r i) (xsum m (fun k => Fld.mul (b i k) (v k)))) = xsum m (fun k => Fld.mul (xsum n (fun i => Fld.mul (r i) (b i k))) (v k)) := by
  have e1 : xsum n (fun i => Fld.mul (r i) (xsum m (fun k => Fld.mul (b i k) (v k)))) = xsum n (fun i => xsum m (fun k => Fld.mul (Fld.mul (r i) (b i k)) (v k))) := xsum_congr fun i hi => by
    rw [mul_xsum _ _ _ (fun k _ => Fld.mul_lt _ _)]
    exact xsum_congr fun k hk => (Fld.mul_assoc (hr i hi) (hb i k hi hk) (hv k hk)).symm
  have e2 : xsum m (fun k => Fld.mul (xsum n (fun i => Fld.mul (r i) (b i k))) (v k)) = xsum m (fun k => xsum n (fun i => Fld.mul (Fld.mul (r i) (b i k)) (v k))) := xsum_congr fun k hk => by
    rw [Fld.mul_comm, mul_xsum _ _ _ (fun i _ => Fld.mul_lt _ _)]
    exact xsum_congr fun i hi => Fld.mul_comm _ _
  rw [e1, e2, xsum_swap]
def en (m : List (List Nat)) (i j : Nat) : Nat := (m.getD i []).getD j 0
def Small (m : List (List Nat)) : Prop := ∀ i j, en m i j < 256
theorem mat_ext {a b : List (List Nat)} (c : Nat) (hl : a.length = b.length) (ha : ∀ i, i < a.length → (a.getD i []).length = c) (hb : ∀ i, i < b.length → (b.getD i []).length = c) (h : ∀ i j, i < a.length → j < c → en a i j = en b i j) : a = b := by
  apply ext_getD [] hl
  intro i hi
  apply ext_getD 0
  · rw [ha i hi, hb i (by omega)]
  · intro j hj
    rw [ha i hi] at hj
    exact h i j hi hj
theorem en_mulM (a b : List (List Nat)) (i j : Nat) (hi : i < a.length) (hj : j < (b.getD 0 []).length) (hl : (a.getD i []).length = b.length) : en (mulM a b) i j = xsum b.length (fun k => Fld.mul (en a i k) (en b k j)) := by
  unfold en
  rw [mulM_get a b i hi, mrow_get b _ j hj]
  unfold dot
  rw [hl, dotTo_xsum]
  exact xsum_congr fun k hk => by rw [col_get b j k hk]
theorem mulM_may {a b : List (List Nat)} (ha : mayM a = true) (hb : mayM b = true) : mayM (mulM a b) = true := by
  obtain ⟨f1, f2, f3, f4, f5⟩ := mayM_facts ha
  obtain ⟨g1, g2, g3, g4, g5⟩ := mayM_facts hb
  unfold mayM
  rw [decide_eq_true_iff, mulM_length, mulM_row_length a b 0 (by omega)]
  exact ⟨f1, f2, g3, g4, fun j hj => mulM_row_length a b j hj⟩
theorem mulM_small (a b : List (List Nat)) : Small (mulM a b) := fun i j => getD_lt (mulM_lt a b i) j
theorem mul_mul {a b c : List (List Nat)} (ha : mayM a = true) (hb : mayM b = true) (hc : mayM c = true) (sa : Small a) (sb : Small b) (sc : Small c) (h1 : (a.getD 0 []).length = b.length) (h2 : (b.getD 0 []).length = c.length) : mulM (mulM a b) c = mulM a (mulM b c) := by
  obtain ⟨f1, f2, f3, f4, f5⟩ := mayM_facts ha
  obtain ⟨g1, g2, g3, g4, g5⟩ := mayM_facts hb
  obtain ⟨k1, k2, k3, k4, k5⟩ := mayM_facts hc
  have hcb : ((mulM b c).getD 0 []).length = (c.getD 0 []).length := mulM_row_length b c 0 (by omega)
  refine mat_ext (c.getD 0 []).length (by rw [mulM_length, mulM_length, mulM_length]) (fun i hi => ?_) (fun i hi => ?_) (fun i j hi hj => ?_)
  · rw [mulM_length] at hi; exact mulM_row_length _ _ i hi
  · rw [mulM_length] at hi; rw [mulM_row_length _ _ i hi, hcb]
  · rw [mulM_length, mulM_length] at hi
    rw [en_mulM (mulM a b) c i j (by rw [mulM_length]; exact hi) hj (by rw [mulM_row_length a b i hi, h2]), en_mulM a (mulM b c) i j hi (by rw [hcb]; exact hj) (by rw [f5 i hi, h1, mulM_length]), mulM_length]
    rw [xsum_congr (n := b.length) (g := fun k => Fld.mul (en a i k) (xsum c.length (fun l => Fld.mul (en b k l) (en c l j)))) (fun k hk => by rw [en_mulM b c k j hk hj (by rw [g5 k hk, h2])])]
    rw [key b.length c.length (fun k => en a i k) (fun k l => en b k l) (fun l => en c l j) (fun k _ => sa i k) (fun k l _ _ => sb k l) (fun l _ => sc l j)]
    exact xsum_congr fun l hl => by rw [en_mulM a b i l hi (by omega) (by rw [f5 i hi, h1])]
theorem vec_vec {a b : List (List Nat)} {v : List Nat} (ha : mayM a = true) (hb : mayM b = true) (sa : Small a) (sb : Small b) (sv : ∀ x ∈ v, x < 256) (h1 : (a.getD 0 []).length = b.length) (h2 : (b.getD 0 []).length = v.length) : mulV a (mulV b v) = mulV (mulM a b) v := by
  obtain ⟨f1, f2, f3, f4, f5⟩ := mayM_facts ha
  obtain ⟨g1, g2, g3, g4, g5⟩ := mayM_facts hb
  have gv : ∀ (m : List (List Nat)) (l : List Nat) (i : Nat), i < m.length → (mulV m l).getD i 0 = dot (m.getD i []) l := fun m l i hi => by
    simp [mulV, List.getD_eq_getElem?_getD, hi]
  apply ext_getD 0
  · simp [mulV, mulM]
  · intro i hi
    have hi' : i < a.length := by simpa [mulV] using hi
    rw [gv a _ i hi', gv (mulM a b) _ i (by rw [mulM_length]; exact hi')]
    unfold dot
    rw [mulM_row_length a b i hi', f5 i hi', h1, dotTo_xsum, dotTo_xsum]
    rw [xsum_congr (n := b.length) (g := fun k => Fld.mul (en a i k) (xsum v.length (fun l => Fld.mul (en b k l) (v.getD l 0)))) (fun k hk => by
      rw [gv b v k hk]; unfold dot; rw [g5 k hk, h2, dotTo_xsum]; rfl)]
    rw [h2, key b.length v.length (fun k => en a i k) (fun k l => en b k l) (fun l => v.getD l 0) (fun k _ => sa i k) (fun k l _ _ => sb k l) (fun l _ => getD_lt sv l)]
    exact xsum_congr fun l hl => by
      have := en_mulM a b i l hi' (by omega) (by rw [f5 i hi', h1])
      unfold en at this ⊢
      rw [this]
theorem oneM_may {n : Nat} (h1 : 1 ≤ n) (h2 : n ≤ 12) : mayM (oneM n) = true := by
  unfold mayM
  rw [decide_eq_true_iff, oneM, grid_length, grid_row_length _ _ _ _ (by omega)]
  exact ⟨h1, h2, h1, h2, fun j hj => grid_row_length _ _ _ _ hj⟩
theorem en_one (n i j : Nat) (hi : i < n) (hj : j < n) : en (oneM n) i j = if j = i then 1 else 0 := by
  unfold en
  rw [oneM, grid_row _ _ _ _ hi, List.getD_eq_getElem?_getD, List.getElem?_map, List.getElem?_range hj]; rfl
theorem one_mul' {a : List (List Nat)} (ha : mayM a = true) (sa : Small a) : mulM (oneM a.length) a = a := by
  obtain ⟨f1, f2, f3, f4, f5⟩ := mayM_facts ha
  have hl : (oneM a.length).length = a.length := by rw [oneM, grid_length]
  refine mat_ext (a.getD 0 []).length (by rw [mulM_length, hl]) (fun i hi => ?_) (fun i hi => f5 i hi) (fun i j hi hj => ?_)
  · rw [mulM_length] at hi; exact mulM_row_length _ _ i hi
  · rw [mulM_length, hl] at hi
    rw [en_mulM _ a i j (by rw [hl]; exact hi) hj (by rw [oneM, grid_row_length _ _ _ _ hi]), xsum_one a.length i _ hi (fun k hk hki => by rw [en_one _ _ _ hi hk, if_neg hki, Fld.zero_mul]), en_one _ _ _ hi hi, if_pos rfl, Fld.mul_comm, Fld.mul_one (sa i j)]
theorem mul_one' {a : List (List Nat)} (ha : mayM a = true) (sa : Small a) : mulM a (oneM (a.getD 0 []).length) = a := by
  obtain ⟨f1, f2, f3, f4, f5⟩ := mayM_facts ha
  have hl : (oneM (a.getD 0 []).length).length = (a.getD 0 []).length := by rw [oneM, grid_length]
  have hc : ((oneM (a.getD 0 []).length).getD 0 []).length = (a.getD 0 []).length := by rw [oneM, grid_row_length _ _ _ _ (by omega)]
  refine mat_ext (a.getD 0 []).length (by rw [mulM_length]) (fun i hi => ?_) (fun i hi => f5 i hi) (fun i j hi hj => ?_)
  · rw [mulM_length] at hi; rw [mulM_row_length _ _ i hi, hc]
  · rw [mulM_length] at hi
    rw [en_mulM a _ i j hi (by rw [hc]; exact hj) (by rw [f5 i hi, hl]), hl, xsum_one (a.getD 0 []).length j _ hj (fun k hk hkj => by rw [en_one _ _ _ hk hj, if_neg (by omega), Fld.mul_zero]), en_one _ _ _ hj hj, if_pos rfl, Fld.mul_one (sa i j)]
theorem rowsM_may {a : List (List Nat)} {zs : List Int} (ha : mayM a = true) (hz : goodR a zs = true) : mayM (rowsM a zs) = true ∧ ((rowsM a zs).getD 0 []).length = (a.getD 0 []).length := by
  obtain ⟨f1, f2, f3, f4, f5⟩ := mayM_facts ha
  obtain ⟨z1, z2, z3⟩ : 1 ≤ zs.length ∧ zs.length ≤ 12 ∧ ∀ j, j < zs.length → 0 ≤ zs.getD j 0 ∧ zs.getD j 0 < (a.length : Int) := of_decide_eq_true hz
  have hg : ∀ i, i < zs.length → ((rowsM a zs).getD i []).length = (a.getD 0 []).length := fun i hi => by
    have e : (rowsM a zs).getD i [] = a.getD (zs.getD i 0).toNat [] := by simp [rowsM, List.getD_eq_getElem?_getD, hi]
    rw [e, f5 _ (by have := z3 i hi; omega)]
  have hl : (rowsM a zs).length = zs.length := by simp [rowsM]
  refine ⟨?_, hg 0 (by omega)⟩
  unfold mayM
  rw [decide_eq_true_iff, hl, hg 0 (by omega)]
  exact ⟨z1, z2, f3, f4, hg⟩
theorem rows_mul (a b : List (List Nat)) (zs : List Int) (hz : goodR a zs = true) : mulM (rowsM a zs) b = rowsM (mulM a b) zs := by
  obtain ⟨z1, z2, z3⟩ : 1 ≤ zs.length ∧ zs.length ≤ 12 ∧ ∀ j, j < zs.length → 0 ≤ zs.getD j 0 ∧ zs.getD j 0 < (a.length : Int) := of_decide_eq_true hz
  have hl : (rowsM a zs).length = zs.length := by simp [rowsM]
  apply ext_getD []
  · rw [mulM_length, hl]; simp [rowsM]
  · intro i hi
    rw [mulM_length, hl] at hi
    rw [mulM_get _ _ i (by omega)]
    have e1 : (rowsM a zs).getD i [] = a.getD (zs.getD i 0).toNat [] := by simp [rowsM, List.getD_eq_getElem?_getD, hi]
    have e2 : (rowsM (mulM a b) zs).getD i [] = (mulM a b).getD (zs.getD i 0).toNat [] := by simp [rowsM, List.getD_eq_getElem?_getD, hi]
    rw [e1, e2, mulM_get _ _ _ (by have := z3 i hi; omega)]
theorem goodR_mul (a b : List (List Nat)) (zs : List Int) : goodR (mulM a b) zs = goodR a zs := by unfold goodR; rw [mulM_length]
theorem Mat.small {w : World} {v : Value} {m : List (List Nat)} (h : Mat w v m) : Small m := fun i j => by
  unfold en
  by_cases hi : i < m.length
  · obtain ⟨_, _, _, _, _, _, hr⟩ := h.some (by omega)
    obtain ⟨r, _, hr8⟩ := hr i hi
    exact getD_lt hr8.choose_spec.choose_spec.2.2.1 j
  · have e : m.getD i [] = [] := by rw [List.getD_eq_getElem?_getD, List.getElem?_eq_none (by omega)]; rfl
    rw [e]; simp
end Go.Proofs.Ytnihohcdamhidaa
