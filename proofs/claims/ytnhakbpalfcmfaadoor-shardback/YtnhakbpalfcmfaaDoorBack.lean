/- Plain facts: the bytes of a hex of bytes are the bytes, and the hex of a hex's bytes the hex. -/
import Derived.Test.YtnhakbpalfcmfaaDoorUnhex
namespace Go.Proofs.YtnhakbpalfcmfaaDoor
namespace Sha
theorem num_hexChar (n : Nat) (h : n < 16) : num (hexChar n) = n := by
  unfold num hexChar
  by_cases h1 : n < 10
  · rw [if_pos h1, if_pos (by omega)]; omega
  · rw [if_neg h1, if_neg (by omega), if_pos (by omega)]; omega
theorem hexChar_num (c : Nat) (h : num c < 16) : hexChar (num c) = c := by
  unfold num at h ⊢
  split at h
  · rename_i h1; rw [if_pos h1]; unfold hexChar; rw [if_pos (by omega)]; omega
  · rename_i h1
    rw [if_neg h1]
    split at h
    · rename_i h2; rw [if_pos h2]; unfold hexChar; rw [if_neg (by omega)]; omega
    · omega
theorem hex_cons (x : Nat) (l : List Nat) : hex (x :: l) = hexChar (x / 16) :: hexChar (x % 16) :: hex l := by simp [hex]
theorem hex_getD : ∀ (l : List Nat) (i : Nat), i < l.length → (hex l).getD (2 * i) 0 = hexChar (l.getD i 0 / 16) ∧ (hex l).getD (2 * i + 1) 0 = hexChar (l.getD i 0 % 16)
  | [], i, h => by simp at h
  | x :: l, 0, _ => by rw [hex_cons]; exact ⟨rfl, rfl⟩
  | x :: l, i + 1, h => by
    have ih := hex_getD l i (by simpa using h)
    rw [hex_cons, show 2 * (i + 1) = 2 * i + 1 + 1 by omega]
    exact ih
theorem getD_ext {a b : List Nat} (hl : a.length = b.length) (h : ∀ i, i < a.length → a.getD i 0 = b.getD i 0) : a = b := by
  apply List.ext_getElem hl
  intro i h1 h2
  have := h i h1
  rw [List.getD_eq_getElem?_getD, List.getD_eq_getElem?_getD, List.getElem?_eq_getElem h1, List.getElem?_eq_getElem h2] at this
  exact this
theorem isHex_hex (l : List Nat) (hl : ∀ x ∈ l, x < 256) : isHex (hex l) := by
  refine ⟨by rw [hex_length]; omega, ?_⟩
  intro j hj
  rw [hex_length] at hj
  have hb := getD_lt l 256 (by decide) hl (j / 2)
  have g := hex_getD l (j / 2) (by omega)
  by_cases e : j % 2 = 0
  · rw [show j = 2 * (j / 2) by omega, g.1, num_hexChar _ (by omega)]; omega
  · rw [show j = 2 * (j / 2) + 1 by omega, g.2, num_hexChar _ (by omega)]; omega
theorem unhexTo_length (l : List Nat) (k : Nat) : (unhexTo l k).length = k := by simp [unhexTo]
theorem unhexTo_getD (l : List Nat) (k i : Nat) (h : i < k) : (unhexTo l k).getD i 0 = num (l.getD (2 * i) 0) * 16 + num (l.getD (2 * i + 1) 0) := by
  rw [List.getD_eq_getElem?_getD, List.getElem?_eq_getElem (by rw [unhexTo_length]; exact h)]
  simp [unhexTo]
theorem unhex_hex (l : List Nat) (hl : ∀ x ∈ l, x < 256) : unhex (hex l) = l := by
  unfold unhex
  rw [hex_length, show 2 * l.length / 2 = l.length by omega]
  apply getD_ext (unhexTo_length _ _)
  intro i hi
  rw [unhexTo_length] at hi
  have hb := getD_lt l 256 (by decide) hl i
  have g := hex_getD l i hi
  rw [unhexTo_getD _ _ _ hi, g.1, g.2, num_hexChar _ (by omega), num_hexChar _ (by omega)]
  omega
theorem hex_unhex (l : List Nat) (h : isHex l) : hex (unhex l) = l := by
  have h1 := h.1
  unfold unhex
  apply getD_ext
  · rw [hex_length, unhexTo_length]; omega
  · intro j hj
    rw [hex_length, unhexTo_length] at hj
    have g := hex_getD (unhexTo l (l.length / 2)) (j / 2) (by rw [unhexTo_length]; omega)
    rw [unhexTo_getD _ _ _ (by omega)] at g
    have a := h.2 (2 * (j / 2)) (by omega)
    have b := h.2 (2 * (j / 2) + 1) (by omega)
    by_cases e : j % 2 = 0
    · rw [show j = 2 * (j / 2) by omega, g.1, show (num (l.getD (2 * (j / 2)) 0) * 16 + num (l.getD (2 * (j / 2) + 1) 0)) / 16 = num (l.getD (2 * (j / 2)) 0) by omega, hexChar_num _ a]
    · rw [show j = 2 * (j / 2) + 1 by omega, g.2, show (num (l.getD (2 * (j / 2)) 0) * 16 + num (l.getD (2 * (j / 2) + 1) 0)) % 16 = num (l.getD (2 * (j / 2) + 1) 0) by omega, hexChar_num _ b]
theorem unhex_lt (l : List Nat) (h : isHex l) : ∀ x ∈ unhex l, x < 256 := by
  intro x hx
  simp only [unhex, unhexTo, List.mem_map, List.mem_range] at hx
  obtain ⟨i, hi, rfl⟩ := hx
  have h1 := h.1
  have a := h.2 (2 * i) (by omega)
  have b := h.2 (2 * i + 1) (by omega)
  omega
end Sha
end Go.Proofs.YtnhakbpalfcmfaaDoor
