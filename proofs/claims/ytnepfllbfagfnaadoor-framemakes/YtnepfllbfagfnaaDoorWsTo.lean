/- A block's 64 numbers one by one; cells that stand below. -/
import Derived.Test.YtnepfllbfagfnaaDoorRoots
import Derived.Test.YtnepfllbfagfnaaDoorKept
import Derived.Test.YtnepfllbfagfnaaDoorRefHex
import Derived.Test.YtnepfllbfagfnaaDoorWords
namespace Go.Proofs.YtnepfllbfagfnaaDoor
open Go.RowKit
/-- the first i of a block's numbers -/
def wsTo (b : List Nat) (i : Nat) : List Nat := (Sha.ws b).take i
theorem growN_get (n : Nat) (l : List Nat) (i : Nat) (h : i < l.length) : (Sha.growN n l).getD i 0 = l.getD i 0 := by
  induction n with
  | zero => rfl
  | succ n ih =>
    rw [← ih, Sha.growN, Sha.grow, List.getD_eq_getElem?_getD, List.getElem?_append_left (by rw [Sha.growN_length]; omega), ← List.getD_eq_getElem?_getD]
theorem growN_add (n m : Nat) (l : List Nat) : Sha.growN (n + m) l = Sha.growN m (Sha.growN n l) := by
  induction m with
  | zero => rfl
  | succ m ih => rw [Nat.add_succ, Sha.growN, ih]; rfl
theorem firstWs_get (b : List Nat) (n k : Nat) (h : k < n) : (Sha.firstWs b n).getD k 0 = Sha.word b k := by
  rw [List.getD_eq_getElem?_getD]
  simp [Sha.firstWs, h]
theorem ws_low (b : List Nat) (k : Nat) (h : k < 16) : (Sha.ws b).getD k 0 = Sha.word b k :=
  Eq.trans (growN_get 48 (Sha.firstWs b 16) k (by rw [Sha.firstWs_length]; exact h)) (firstWs_get b 16 k h)
def nxt (L : List Nat) : Nat := Sha.nextW (L.getD (L.length - 16) 0) (L.getD (L.length - 7) 0) (L.getD (L.length - 15) 0) (L.getD (L.length - 2) 0)
theorem grow_nxt (L : List Nat) : Sha.grow L = L ++ [nxt L] := rfl
theorem nxt_at (L : List Nat) (n : Nat) (hn : L.length = n + 16) : nxt L = Sha.nextW (L.getD n 0) (L.getD (n + 9) 0) (L.getD (n + 1) 0) (L.getD (n + 14) 0) := by
  have h1 : L.length - 16 = n := by omega
  have h2 : L.length - 7 = n + 9 := by omega
  have h3 : L.length - 15 = n + 1 := by omega
  have h4 : L.length - 2 = n + 14 := by omega
  unfold nxt
  rw [h1, h2, h3, h4]
theorem app_at (L : List Nat) (x n : Nat) (hn : L.length = n) : (L ++ [x]).getD n 0 = x := by
  subst hn; simp
theorem app_old (L : List Nat) (x i : Nat) (hn : i < L.length) : (L ++ [x]).getD i 0 = L.getD i 0 := by
  rw [List.getD_eq_getElem?_getD, List.getElem?_append_left hn, ← List.getD_eq_getElem?_getD]
theorem grow_at (L : List Nat) (n : Nat) (hn : L.length = n + 16) : (Sha.grow L).getD (n + 16) 0 = Sha.nextW (L.getD n 0) (L.getD (n + 9) 0) (L.getD (n + 1) 0) (L.getD (n + 14) 0) := by
  rw [grow_nxt, app_at _ _ _ hn, nxt_at L n hn]
theorem grow_old (L : List Nat) (i : Nat) (hi : i < L.length) : (Sha.grow L).getD i 0 = L.getD i 0 := by
  rw [grow_nxt, app_old _ _ _ hi]
theorem growN_high (l : List Nat) (hl : l.length = 16) (n m : Nat) (h : n < m) : (Sha.growN m l).getD (n + 16) 0 = Sha.nextW ((Sha.growN m l).getD n 0) ((Sha.growN m l).getD (n + 9) 0) ((Sha.growN m l).getD (n + 1) 0) ((Sha.growN m l).getD (n + 14) 0) := by
  have hm : m = (n + 1) + (m - n - 1) := by omega
  have hn : (Sha.growN n l).length = n + 16 := by rw [Sha.growN_length, hl]; omega
  have hg : (Sha.growN (n + 1) l).length = n + 17 := by rw [Sha.growN_length, hl]; omega
  have e : ∀ i, i < n + 17 → (Sha.growN m l).getD i 0 = (Sha.growN (n + 1) l).getD i 0 := fun i hi => by
    rw [hm, growN_add (n + 1)]; exact growN_get _ _ _ (by rw [hg]; exact hi)
  have e2 : ∀ i, i < n + 16 → (Sha.growN m l).getD i 0 = (Sha.growN n l).getD i 0 := fun i hi => by
    rw [e i (by omega)]; exact grow_old _ _ (by rw [hn]; exact hi)
  rw [e _ (by omega), e2 n (by omega), e2 (n + 9) (by omega), e2 (n + 1) (by omega), e2 (n + 14) (by omega)]
  exact grow_at _ n hn
theorem ws_high (b : List Nat) (n : Nat) (h : n < 48) : (Sha.ws b).getD (n + 16) 0 = Sha.nextW ((Sha.ws b).getD n 0) ((Sha.ws b).getD (n + 9) 0) ((Sha.ws b).getD (n + 1) 0) ((Sha.ws b).getD (n + 14) 0) :=
  growN_high _ (Sha.firstWs_length b 16) n 48 h
theorem wsTo_length (b : List Nat) (k : Nat) (h : k ≤ 64) : (wsTo b k).length = k := by unfold wsTo; rw [List.length_take, Sha.ws_length]; omega
theorem wsTo_get (b : List Nat) (k i : Nat) (h : i < k) : (wsTo b k).getD i 0 = (Sha.ws b).getD i 0 := by
  unfold wsTo; rw [List.getD_eq_getElem?_getD, List.getElem?_take, if_pos h, ← List.getD_eq_getElem?_getD]
theorem wsTo_succ (b : List Nat) (k : Nat) (h : k < 64) : wsTo b k ++ [(Sha.ws b).getD k 0] = wsTo b (k + 1) := take_app _ _ (by rw [Sha.ws_length]; exact h)
theorem ws_all (b : List Nat) (hbb : ∀ x ∈ b, x < 256) : ∀ x ∈ Sha.ws b, x < 4294967296 := growN_lt _ _ (firstWs_lt b hbb _)
theorem cell_below {w W : World} {N g i : Nat} {v : Option Value} (hb : Below N w W) (hg : g < N) (h : w.cell? ⟨g, i, none⟩ = v) : W.cell? ⟨g, i, none⟩ = v := by
  rw [← h]; unfold World.cell?; rw [hb.block g hg]
end Go.Proofs.YtnepfllbfagfnaaDoor
