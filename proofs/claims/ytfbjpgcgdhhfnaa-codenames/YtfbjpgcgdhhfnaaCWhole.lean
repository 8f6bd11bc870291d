/- The blob of payloads, with all payloads that it has: the program's Decode and Rebuild. -/
import Derived.Test.YtfbjpgcgdhhfnaaCSolved
namespace Go.Proofs.Ytfbjpgcgdhhfnaa
open Go.RowKit
/-- all that are handed in are this blob's -/
def IsOf (K : Nat) (zs : List Int) (ps : List (List Nat)) (b : List Nat) : Prop := b.length ≤ 32768 ∧ (∀ x ∈ b, x < 256) ∧ ∀ i, i < zs.length → ps.getD i [] = payL K b (zs.getD i 0).toNat
theorem sz_mono (K : Nat) {a b : Nat} (h : a ≤ b) : sz K a ≤ sz K b := by unfold sz; exact Nat.div_le_div_right (by omega)
/-- K places of those handed in, and what numbers stand there -/
structure Chosen (K N : Nat) (zs : List Int) (q s : Nat → Nat) : Prop where
  lt : ∀ i, i < K → q i < zs.length
  is : ∀ i, i < K → zs.getD (q i) 0 = ((s i : Nat) : Int)
  inj : ∀ i, i < K → ∀ j, j < K → s i = s j → i = j
  bd : ∀ i, i < K → s i < N
theorem isOf_data {K N z : Nat} {zs : List Int} {ps : List (List Nat)} {q s : Nat → Nat} {b : List Nat} (h1 : 1 ≤ K) (hK : K ≤ 12) (hN : N ≤ 12) (hc : Chosen K N zs q s) (hz : ∀ i, i < K → (ps.getD (q i) []).length = z) (hb : IsOf K zs ps b) :
    z = sz K b.length ∧ (∀ n, n < K * z → flatD K z s (fun i t => (ps.getD (q i) []).getD t 0) n = pad b n) := by
  obtain ⟨b1, b2, b3⟩ := hb
  have hp : ∀ i, i < K → ps.getD (q i) [] = payL K b (s i) := fun i hi => by
    rw [b3 (q i) (hc.lt i hi), hc.is i hi]; rfl
  have hzs : z = sz K b.length := by
    rw [← hz 0 (by omega), hp 0 (by omega), payL_length]
  refine ⟨hzs, fun n hn => ?_⟩
  subst hzs
  refine flatD_is b2 (by omega) hc.inj (fun i hi => by have := hc.bd i hi; omega) (fun k hk t ht => ?_) hn
  show (ps.getD (q k) []).getD t 0 = _
  rw [hp k hk]
  exact rowN_get _ _ _ ht
/-- what the data say of the blob -/
theorem isOf_blob {K N z : Nat} {zs : List Int} {ps : List (List Nat)} {q s : Nat → Nat} {b : List Nat} {D : Nat → Nat} (h1 : 1 ≤ K) (hK : K ≤ 12) (hN : N ≤ 12) (hc : Chosen K N zs q s) (hz : ∀ i, i < K → (ps.getD (q i) []).length = z) (hb : IsOf K zs ps b) (hD : D = flatD K z s (fun i t => (ps.getD (q i) []).getD t 0)) :
    num D 8 = b.length ∧ 8 + b.length ≤ K * z ∧ rowN (num D 8) (fun i => D (8 + i)) = b := by
  obtain ⟨e1, e2⟩ := isOf_data h1 hK hN hc hz hb
  have hf := sz_facts K b.length h1
  rw [← e1] at hf
  have e3 : num D 8 = b.length := by
    rw [← pad_len hb.1]
    exact num_congr 8 fun k hk => by rw [hD]; exact e2 k (by omega)
  refine ⟨e3, hf.1, ?_⟩
  rw [e3]
  conv => rhs; rw [← pad_blob b]
  exact rowN_congr fun j hj => by rw [hD]; exact e2 _ (by omega)
theorem chosen_first {K N : Nat} {zs : List Int} (hg : goodZ (N : Int) zs) (hK : K ≤ zs.length) : Chosen K N zs (fun i => i) (fun i => (zs.getD i 0).toNat) :=
  ⟨fun i hi => by omega, fun i hi => by have := (hg i (by omega)).1; omega, fun i hi j hj e => goodZ_inj hg (by omega) (by omega) (by have := (hg i (by omega)).1; have := (hg j (by omega)).1; omega), fun i hi => by have := (hg i (by omega)).1; omega⟩
theorem IsOf.one {K N : Nat} {zs : List Int} {ps : List (List Nat)} {b b' : List Nat} (h1 : 1 ≤ K) (hK : K ≤ 12) (hN : N ≤ 12) (hg : goodZ (N : Int) zs) (hl : K ≤ zs.length) (h : IsOf K zs ps b) (h' : IsOf K zs ps b') : b = b' := by
  have hc := chosen_first hg hl
  exact pay_inj h.2.1 h'.2.1 h.1 h'.1 h1 (by omega) hc.inj (fun i hi => by have := hc.bd i hi; omega) (fun k hk => by
    rw [← h.2.2 k (by omega), ← h'.2.2 k (by omega)])
/-- may these be asked? -/
def PreD (K N : Int) (zs : List Int) (ps : List (List Nat)) : Prop := Mx.mayC K N = true ∧ zs.length = ps.length ∧ goodZ N zs
/-- what Decode answers -/
def DecIs (K N : Int) (zs : List Int) (ps : List (List Nat)) (s : List Nat) (er : Int) : Prop :=
  (¬ PreD K N zs ps ∧ s = [] ∧ er = 1) ∨ (PreD K N zs ps ∧ (zs.length : Int) < K ∧ s = [] ∧ er = 54) ∨ (PreD K N zs ps ∧ ¬ (zs.length : Int) < K ∧ ((IsOf K.toNat zs ps s ∧ er = 0) ∨ ((¬ ∃ b, IsOf K.toNat zs ps b) ∧ s = [] ∧ er = 4)))
theorem DecIs.one {K N : Int} {zs : List Int} {ps : List (List Nat)} {s s' : List Nat} {er er' : Int} (h : DecIs K N zs ps s er) (h' : DecIs K N zs ps s' er') : s = s' ∧ er = er' := by
  rcases h with ⟨a, rfl, rfl⟩ | ⟨a, b, rfl, rfl⟩ | ⟨a, b, c⟩
  · rcases h' with ⟨a', rfl, rfl⟩ | ⟨a', _⟩ | ⟨a', _⟩
    · exact ⟨rfl, rfl⟩
    · exact absurd a' a
    · exact absurd a' a
  · rcases h' with ⟨a', _⟩ | ⟨a', b', rfl, rfl⟩ | ⟨a', b', _⟩
    · exact absurd a a'
    · exact ⟨rfl, rfl⟩
    · exact absurd b b'
  · rcases h' with ⟨a', _⟩ | ⟨a', b', _⟩ | ⟨a', b', c'⟩
    · exact absurd a a'
    · exact absurd b' b
    · obtain ⟨k, n, rfl, rfl, h1, h2, h3⟩ := mayC_facts a.1
      rcases c with ⟨c, rfl⟩ | ⟨c, rfl, rfl⟩
      · rcases c' with ⟨c', rfl⟩ | ⟨c', _⟩
        · exact ⟨IsOf.one h1 (by omega) h3 a.2.2 (by omega) c c', rfl⟩
        · exact absurd ⟨_, c⟩ c'
      · rcases c' with ⟨c', rfl⟩ | ⟨c', rfl, rfl⟩
        · exact absurd ⟨_, c'⟩ c
        · exact ⟨rfl, rfl⟩
theorem mayL_facts {K : Nat} {ps : List (List Nat)} (h : mayL K ps = true) : sz K 0 ≤ (ps.getD 0 []).length ∧ (ps.getD 0 []).length ≤ sz K 32768 ∧ ∀ j, j < ps.length → (ps.getD j []).length = (ps.getD 0 []).length := of_decide_eq_true h
theorem mayL_of {K : Nat} {zs : List Int} {ps : List (List Nat)} {b : List Nat} (h : IsOf K zs ps b) (hl : zs.length = ps.length) (hp : 0 < zs.length) : mayL K ps = true := by
  have hj : ∀ j, j < ps.length → (ps.getD j []).length = sz K b.length := fun j hj => by rw [h.2.2 j (by omega), payL_length]
  unfold mayL
  rw [decide_eq_true_iff, hj 0 (by omega)]
  exact ⟨sz_mono K (Nat.zero_le _), sz_mono K h.1, fun j hjj => hj j hjj⟩
theorem low_chosen {K N : Nat} {zs : List Int} (hg : goodZ (N : Int) zs) (hK : K ≤ zs.length) : ∃ q, Chosen K N zs q (fun i => (low zs K N).getD i 0) := by
  have hLl := low_length hg hK
  have hm : ∀ i, i < K → (low zs K N).getD i 0 ∈ low zs K N := fun i hi => by
    rw [List.getD_eq_getElem?_getD, List.getElem?_eq_getElem (by omega)]; exact List.getElem_mem _
  have h' : ∀ i, ∃ j, i < K → j < zs.length ∧ zs.getD j 0 = (((low zs K N).getD i 0 : Nat) : Int) := fun i => by
    by_cases hi : i < K
    · have := (low_mem (hm i hi)).2
      unfold inZ at this
      obtain ⟨j, hj⟩ := of_decide_eq_true this
      exact ⟨j, fun _ => hj⟩
    · exact ⟨0, fun h => absurd h hi⟩
  obtain ⟨q, hq⟩ := Classical.axiomOfChoice h'
  refine ⟨q, fun i hi => (hq i hi).1, fun i hi => (hq i hi).2, fun i hi j hj e => ?_, fun i hi => (low_mem (hm i hi)).1⟩
  have e' : (low zs K N).getD i 0 = (low zs K N).getD j 0 := e
  rw [List.getD_eq_getElem?_getD, List.getD_eq_getElem?_getD, List.getElem?_eq_getElem (by omega), List.getElem?_eq_getElem (by omega)] at e'
  simp only [Option.getD_some] at e'
  exact (List.getElem_inj (low_nodup zs K N)).1 e'
end Go.Proofs.Ytfbjpgcgdhhfnaa
