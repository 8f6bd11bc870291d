/- The laws' small functions: a byte so often, more than is gone through; how many bytes packs have. -/
import Derived.Test.YtjhjolnflkekoaaDoorPcs
namespace Go.Proofs.YtjhjolnflkekoaaDoor
open Go.RowKit Go.Maps
open Pk
set_option linter.unusedVariables false
theorem times_any (n b : Nat) (hn : n ≤ 100000) (h0 : 0 < n) (w : World) : Calls Tryd.prog 13 #[.int .i64 (n : Int), .int .u8 (b : Int)] w fun e w' => e = .returned (.string (rep n b)) ∧ Below w.heap.size w w' := by
  have hmk := fun W => makes_u8 n (by omega) W
  go_enter Tryd.func13, Tryd.ntmps13
  go_wp2_with fail
  clear hmk
  go_loopw [6] (fun v6 wr => ∃ k : Nat, k ≤ n ∧ v6 = .int .i64 (k : Int) ∧ Has wr w.heap.size (U8s (List.replicate k b ++ List.replicate (n - k) 0)) 5 ∧ Below w.heap.size w wr) (fun v6 _ => n - (intOf v6).toNat)
  case atStart => exact ⟨0, Nat.zero_le _, rfl, by simpa using Has.new w w.heap.size _ 5 rfl, (Below.refl _ _).alloc (Nat.le_refl _) _⟩
  case round =>
    obtain ⟨k, hk, rfl, hh, hB⟩ := hrel
    by_cases hlt : k < n
    · have i1 : (k : Int) < (n : Int) := by omega
      have wk : IntKind.i64.wrap ((k : Int) + 1) = ((k + 1 : Nat) : Int) := by rw [IntKind.wrap_i64]; omega
      have c0 : wr.cell? ⟨w.heap.size, k, none⟩ = some (.int .u8 (((List.replicate k b ++ List.replicate (n - k) 0).getD k 0 : Nat) : Int)) := by
        rw [hh.cell k]
        have e : (List.replicate k b ++ List.replicate (n - k) 0).length = n := by simp; omega
        generalize List.replicate k b ++ List.replicate (n - k) 0 = l at *
        simp [U8s, List.getD_eq_getElem?_getD, List.getElem?_eq_getElem (show k < l.length by omega)]
      have f0 := hh.frozen k
      generalize (List.replicate k b ++ List.replicate (n - k) 0).getD k 0 = z at *
      have HH := hid (hh.set k (.int .u8 (b : Int)))
      rw [U8s_set, fill_set k n b hlt] at HH
      clear hh
      go_wp2_with fail
      go_roundw
      case rel => exact ⟨k + 1, by omega, by rfl, HH.out, hB.setCell (p := ⟨w.heap.size, k, none⟩) (Nat.le_refl _) _⟩
      case measure => first | (simp [intOf]; done) | (simp [intOf]; omega)
    · obtain rfl : k = n := by omega
      have q1 : ¬ ((k : Int) < (k : Int)) := by omega
      rw [Nat.sub_self, List.replicate_zero, List.append_nil] at hh
      have hcv := conv_any (n := k) hh (by simp) h0
      clear hh
      go_wp2_with fail
      go_ret
      exact ⟨rfl, hB⟩
/-- are they more than a law goes through? -/
def lgS : Nat → List ByteArray → Bool
  | _, [] => false
  | n, x :: r => decide (20000 < x.size) || (decide (80000 < n + 20 + x.size) || lgS (n + 20 + x.size) r)
theorem lgS_no : ∀ (l : List ByteArray) (n : Nat), n ≤ 80000 → lgS n l = false → n + 20 * l.length + tot l ≤ 80000
  | [], n, hn, _ => by rw [tot_nil, List.length_nil]; omega
  | x :: r, n, hn, h => by
    unfold lgS at h
    simp only [Bool.or_eq_false_iff, decide_eq_false_iff_not] at h
    have := lgS_no r (n + 20 + x.size) (by omega) h.2.2
    rw [tot_cons, List.length_cons]; omega
theorem drop_n' {c : List ByteArray} {k : Nat} (h : k < c.length) : c.drop k = c.getD k ⟨#[]⟩ :: c.drop (k + 1) := by
  rw [List.drop_eq_getElem_cons h, List.getD_eq_getElem?_getD, List.getElem?_eq_getElem h]; rfl
set_option maxRecDepth 20000 in
set_option maxHeartbeats 2000000 in
theorem long_any (l : List ByteArray) (A : Option Addr) (cap : Nat) (w : World) (h : Tx w A l) (hl : l.length ≤ 9223372036854775807) (hs : ∀ s ∈ l, s.size ≤ 9223372036850000000) :
    Calls Tryd.prog 6 #[.slice A l.length cap] w fun e w' => e = .returned (.bool (lgS 0 l)) ∧ Below w.heap.size w w' := by
  obtain ⟨n, hn⟩ : ∃ n, n = l.length := ⟨_, rfl⟩
  have HN := hid hn
  have HL := hid h
  have HS := hid hs
  rw [← hn] at hl ⊢
  clear hn h hs
  go_enter Tryd.func6, Tryd.ntmps6
  go_wp2_with fail
  go_loopw [3, 4] (fun v3 v4 wr => ∃ k z : Nat, k ≤ n ∧ v4 = .int .i64 (k : Int) ∧ v3 = .int .i64 (z : Int) ∧ Hid (z ≤ 80000) ∧ Hid (lgS 0 l = lgS z (l.drop k)) ∧ Hid (Below w.heap.size w wr)) (fun _ v4 _ => n - (intOf v4).toNat)
  case atStart => exact ⟨0, 0, Nat.zero_le _, rfl, rfl, Nat.zero_le _, rfl, Below.refl _ _⟩
  case round =>
    obtain ⟨k, z, hk, rfl, rfl, HZ, HE, HB⟩ := hrel
    by_cases hlt : k < n
    · have hkl : k < l.length := by rw [← HN.out]; exact hlt
      obtain ⟨g, o, rfl, hg, c0⟩ := tx_cell HL.out HB.out hkl
      have hz := HZ.out
      have hs := HS.out _ (getD_mem hkl)
      have hst : Hid (lgS z (l.drop k) = (decide (20000 < (l.getD k ⟨#[]⟩).size) || (decide (80000 < z + 20 + (l.getD k ⟨#[]⟩).size) || lgS (z + 20 + (l.getD k ⟨#[]⟩).size) (l.drop (k + 1))))) := hid (by rw [drop_n' hkl]; rfl)
      generalize l.getD k ⟨#[]⟩ = s at *
      have i1 : decide ((k : Int) < (n : Int)) = true := by simp; omega
      have wk : IntKind.i64.wrap ((k : Int) + 1) = ((k + 1 : Nat) : Int) := by rw [IntKind.wrap_i64]; omega
      have wz : IntKind.i64.wrap ((z : Int) + 20) = (z : Int) + 20 := by rw [IntKind.wrap_i64]; omega
      by_cases h1 : 20000 < s.size
      · have d1 : decide ((20000 : Int) < (s.size : Int)) = true := by simp; omega
        have HF : Hid (lgS 0 l = true) := hid (by rw [HE.out, hst.out, decide_eq_true h1]; rfl)
        clear hz hs h1
        go_wp2_with fail
        go_ret
        exact ⟨by rw [HF.out]; rfl, HB.out⟩
      · have d1 : decide ((20000 : Int) < (s.size : Int)) = false := by simp; omega
        have ws : IntKind.i64.wrap ((z : Int) + 20 + (s.size : Int)) = (z : Int) + 20 + (s.size : Int) := by rw [IntKind.wrap_i64]; omega
        by_cases h2 : 80000 < z + 20 + s.size
        · have d2 : decide ((80000 : Int) < (z : Int) + 20 + (s.size : Int)) = true := by simp; omega
          have HF : Hid (lgS 0 l = true) := hid (by rw [HE.out, hst.out, decide_eq_true h2]; simp)
          clear hz hs h1 h2
          go_wp2_with fail
          go_ret
          exact ⟨by rw [HF.out]; rfl, HB.out⟩
        · have d2 : decide ((80000 : Int) < (z : Int) + 20 + (s.size : Int)) = false := by simp; omega
          have HE2 : Hid (lgS 0 l = lgS (z + 20 + s.size) (l.drop (k + 1))) := hid (by rw [HE.out, hst.out, decide_eq_false h1, decide_eq_false h2]; rfl)
          have HZ2 : Hid (z + 20 + s.size ≤ 80000) := hid (by omega)
          have hx : k + 1 ≤ n := hlt
          clear hz hs h1 h2
          go_wp2_with fail
          go_roundw
          case rel => exact ⟨k + 1, z + 20 + s.size, hx, by rfl, by simp, HZ2, HE2, HB⟩
          case measure => first | (simp [intOf]; done) | (simp [intOf]; omega)
    · obtain rfl : k = n := by omega
      have i1 : decide ((k : Int) < (k : Int)) = false := by simp
      have HF : Hid (lgS 0 l = false) := hid (by rw [HE.out, List.drop_eq_nil_of_le (by rw [← HN.out]; exact Nat.le_refl _)]; rfl)
      go_wp2_with fail
      go_ret
      exact ⟨by rw [HF.out]; rfl, HB.out⟩
/-- all bytes of some packs -/
def bsum (P : List (List ByteArray)) : Nat := (P.map fun p => (pb p).size).sum
theorem bsum_take {P : List (List ByteArray)} {k : Nat} {p : List ByteArray} (h : P[k]? = some p) : bsum (P.take (k + 1)) = bsum (P.take k) + (pb p).size := by
  unfold bsum
  rw [List.take_add_one, h, List.map_append, List.sum_append]; simp
theorem bsum_le {P : List (List ByteArray)} {m : Nat} (h : ∀ p ∈ P, (pb p).size ≤ m) : bsum P ≤ P.length * m := by
  induction P with
  | nil => simp [bsum]
  | cons p r ih =>
    have h1 := h p (by simp)
    have h2 := ih (fun q hq => h q (by simp [hq]))
    unfold bsum at h2 ⊢
    rw [List.map_cons, List.sum_cons, List.length_cons, Nat.succ_mul]; omega
set_option maxRecDepth 20000 in
set_option maxHeartbeats 2000000 in
theorem bytes_any (L : List (List ByteArray × Nat × Nat)) (lo : Nat) (A : Option Addr) (cap : Nat) (w : World) (h : Pks w lo (.slice A L.length cap) L) (hl : L.length ≤ 100000) (hs : ∀ p ∈ L.map (·.1), (pb p).size ≤ 100000) :
    Calls Tryd.prog 10 #[.slice A L.length cap] w fun e w' => e = .returned (.int .i64 (bsum (L.map (·.1)) : Int)) ∧ Below w.heap.size w w' := by
  obtain ⟨n, hn⟩ : ∃ n, n = L.length := ⟨_, rfl⟩
  have HN := hid hn
  have HL := hid h
  have HS := hid hs
  rw [← hn] at hl HL ⊢
  clear hn h hs
  go_enter Tryd.func10, Tryd.ntmps10
  go_wp2_with fail
  go_loopw [3, 4, 7] (fun v3 _ v7 wr => ∃ k : Nat, k ≤ n ∧ v7 = .int .i64 (k : Int) ∧ v3 = .int .i64 (bsum ((L.map (·.1)).take k) : Int) ∧ Hid (Below w.heap.size w wr)) (fun _ _ v7 _ => n - (intOf v7).toNat)
  case atStart => exact ⟨0, Nat.zero_le _, rfl, rfl, Below.refl _ _⟩
  case round =>
    obtain ⟨k, hk, rfl, rfl, HB⟩ := hrel
    by_cases hlt : k < n
    · have hkl : k < L.length := by rw [← HN.out]; exact hlt
      obtain ⟨x, hx⟩ : ∃ x, L[k]? = some x := ⟨_, List.getElem?_eq_getElem hkl⟩
      obtain ⟨g, eA, _, hg, c0, _, _, _⟩ := HL.out.cells k x hx
      subst eA
      have c1 : wr.cell? ⟨g, k * 4, none⟩ = some (.string (pb x.1)) := (HB.out.cell (p := ⟨g, k * 4, none⟩) hg).trans c0
      have hx2 : (L.map (·.1))[k]? = some x.1 := by rw [List.getElem?_map, hx]; rfl
      have hbt := bsum_take hx2
      have hbl : bsum ((L.map (·.1)).take (k + 1)) ≤ (k + 1) * 100000 := by
        refine Nat.le_trans (bsum_le (m := 100000) fun p hp => HS.out p (List.mem_of_mem_take hp)) ?_
        rw [List.length_take]; exact Nat.mul_le_mul_right _ (Nat.min_le_left _ _)
      have HBT := hid hbt
      have i1 : (k : Int) < (n : Int) := by omega
      have i0 : (0 : Int) ≤ (k : Int) := by omega
      have wk : IntKind.i64.wrap ((k : Int) + 1) = ((k + 1 : Nat) : Int) := by rw [IntKind.wrap_i64]; omega
      have wz : IntKind.i64.wrap ((bsum ((L.map (·.1)).take k) : Int) + ((pb x.1).size : Int)) = ((bsum ((L.map (·.1)).take k) + (pb x.1).size : Nat) : Int) := by rw [IntKind.wrap_i64]; omega
      have hxk : k + 1 ≤ n := hlt
      clear hbl hbt hx2 hx c0
      generalize bsum ((L.map (·.1)).take k) = z at *
      generalize pb x.1 = B at *
      go_wp2_with fail
      go_roundw
      case rel => exact ⟨k + 1, hxk, by rfl, by rw [HBT.out]; first | rfl | simp, HB⟩
      case measure => first | (simp [intOf]; done) | (simp [intOf]; omega)
    · obtain rfl : k = n := by omega
      have i1 : ¬ ((k : Int) < (k : Int)) := by omega
      have e : (L.map (·.1)).take k = L.map (·.1) := List.take_of_length_le (by rw [List.length_map, ← HN.out]; exact Nat.le_refl _)
      rw [e]
      clear e
      obtain ⟨z, hz⟩ : ∃ z, z = bsum (L.map (·.1)) := ⟨_, rfl⟩
      have HZ := hid hz
      rw [← hz]
      clear hz
      go_wp2_with fail
      go_ret
      exact ⟨by rw [← HZ.out]; rfl, HB.out⟩
end Go.Proofs.YtjhjolnflkekoaaDoor
