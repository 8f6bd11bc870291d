/- Lists of files: their size, whether they are the same, whether one is too much. -/
import Derived.Test.YtnhekngmgjnodaaDoorStep
import Derived.Laws.StructEq
import Derived.BigQuiet
namespace Go.Proofs.YtnhekngmgjnodaaDoor
open Go.RowKit
open Pa
set_option linter.unusedVariables false
/-- a list that a statement goes over -/
def Small (l : List Fl) : Prop := l.length ≤ 300 ∧ ∀ x ∈ l, x.path.size ≤ 400 ∧ x.data.size ≤ 20000
theorem getF_mem {l : List Fl} {k : Nat} (h : k < l.length) : l.getD k default ∈ l := by
  rw [List.getD_eq_getElem?_getD, List.getElem?_eq_getElem h]; exact List.getElem_mem h
/-- how many bytes there are -/
def sizeF : List Fl → Nat
  | [] => 0
  | x :: r => x.data.size + sizeF r
theorem sizeF_snoc (l : List Fl) (x : Fl) : sizeF (l ++ [x]) = sizeF l + x.data.size := by
  induction l with
  | nil => simp [sizeF]
  | cons y r ih => simp [sizeF, ih]; omega
theorem sizeF_le {l : List Fl} (h : ∀ x ∈ l, x.data.size ≤ 20000) : sizeF l ≤ l.length * 20000 := by
  induction l with
  | nil => simp [sizeF]
  | cons y r ih =>
    have h1 := h y (by simp)
    have h2 := ih (fun x hx => h x (by simp [hx]))
    simp [sizeF]; omega
theorem sizeF_take {l : List Fl} (h : Small l) (k : Nat) : sizeF (l.take k) ≤ 6000000 := by
  have h1 := sizeF_le (l := l.take k) (fun x hx => (h.2 x (List.mem_of_mem_take hx)).2)
  have h2 := h.1
  rw [List.length_take] at h1
  have : min k l.length * 20000 ≤ 300 * 20000 := Nat.mul_le_mul_right _ (by omega)
  omega
set_option maxRecDepth 20000 in
set_option maxHeartbeats 4000000 in
theorem size_any (l : List Fl) (A : Option Addr) (c : Nat) (hs : Small l) (w : World) (hl : Fs w A l) :
    Calls Tryd.prog 20 #[.slice A l.length c] w fun e w' => e = .returned (.int .i64 (sizeF l : Int)) ∧ Below w.heap.size w w' := by
  have HL := hid hl
  have HS := hid hs
  obtain ⟨n, hnn⟩ : ∃ n, n = l.length := ⟨_, rfl⟩
  have HN := hid hnn
  have hn3 : n ≤ 300 := by rw [hnn]; exact hs.1
  rw [← hnn]
  clear hl hs hnn
  go_enter Tryd.func20, Tryd.ntmps20
  go_wp2_with fail
  go_loopw [3, 5, 8] (fun v3 _ v8 wr => ∃ k z : Nat, k ≤ n ∧ v8 = .int .i64 (k : Int) ∧ v3 = .int .i64 (z : Int) ∧ Hid (z = sizeF (l.take k)) ∧ Hid (Below w.heap.size w wr)) (fun _ _ v8 _ => n - (intOf v8).toNat)
  case atStart => exact ⟨0, 0, Nat.zero_le _, rfl, rfl, hid rfl, hid (Below.refl _ _)⟩
  case round =>
    obtain ⟨k, z, hk, rfl, rfl, HZ, HB⟩ := hrel
    by_cases hlt : k < n
    · have hkl : k < l.length := by rw [← HN.out]; exact hlt
      obtain ⟨g, o, rfl, hg, c0, c1, c2⟩ := fs_cell HL.out HB.out hkl
      have HT := hid (take_next l default k hkl)
      have hm := (HS.out.2 _ (getF_mem hkl)).2
      have hz := sizeF_take HS.out k
      rw [← HZ.out] at hz
      have i1 : (k : Int) < (n : Int) := by omega
      have i0 : (0 : Int) ≤ (k : Int) := by omega
      have wk : IntKind.i64.wrap ((k : Int) + 1) = ((k + 1 : Nat) : Int) := by rw [IntKind.wrap_i64]; omega
      have HZ2 : Hid (z + (l.getD k default).data.size = sizeF (l.take (k + 1))) := hid (by rw [HT.out, sizeF_snoc, ← HZ.out])
      generalize (l.getD k default).path = x0 at *
      generalize (l.getD k default).dir = x1 at *
      generalize (l.getD k default).data = x2 at *
      have wz : IntKind.i64.wrap ((z : Int) + (x2.size : Int)) = ((z + x2.size : Nat) : Int) := by rw [IntKind.wrap_i64]; omega
      have HB2 := hid (HB.out.alloc HB.out.size (.cells #[.string x0, .bool x1, .string x2] 38))
      clear HT
      go_wp2_with fail
      go_roundw
      case rel => exact ⟨k + 1, _, by omega, by rfl, rfl, HZ2, HB2⟩
      case measure => first | (simp [intOf]; done) | (simp [intOf]; omega)
    · obtain rfl : n = k := by omega
      have j1 : ¬ ((n : Int) < (n : Int)) := by omega
      have hz : z = sizeF l := by rw [HZ.out, HN.out, List.take_length]
      go_wp2_with fail
      go_ret
      exact ⟨by rw [← hz]; rfl, HB.out⟩
set_option maxRecDepth 20000 in
set_option maxHeartbeats 4000000 in
theorem refSize_any (l : List Fl) (A : Option Addr) (c : Nat) (hs : Small l) (w : World) (hl : Fs w A l) :
    Calls Tryd.prog 21 #[.slice A l.length c] w fun e w' => e = .returned (.int .i64 (sizeF l : Int)) ∧ Below w.heap.size w w' := by
  have HL := hid hl
  have HS := hid hs
  obtain ⟨n, hnn⟩ : ∃ n, n = l.length := ⟨_, rfl⟩
  have HN := hid hnn
  have hn3 : n ≤ 300 := by rw [hnn]; exact hs.1
  rw [← hnn]
  clear hl hs hnn
  go_enter Tryd.func21, Tryd.ntmps21
  go_wp2_with fail
  go_loopw [3, 4] (fun v3 v8 wr => ∃ k z : Nat, k ≤ n ∧ v8 = .int .i64 (k : Int) ∧ v3 = .int .i64 (z : Int) ∧ Hid (z = sizeF (l.take k)) ∧ Hid (Below w.heap.size w wr)) (fun _ v8 _ => n - (intOf v8).toNat)
  case atStart => exact ⟨0, 0, Nat.zero_le _, rfl, rfl, hid rfl, hid (Below.refl _ _)⟩
  case round =>
    obtain ⟨k, z, hk, rfl, rfl, HZ, HB⟩ := hrel
    by_cases hlt : k < n
    · have hkl : k < l.length := by rw [← HN.out]; exact hlt
      obtain ⟨g, o, rfl, hg, c0, c1, c2⟩ := fs_cell HL.out HB.out hkl
      have HT := hid (take_next l default k hkl)
      have hm := (HS.out.2 _ (getF_mem hkl)).2
      have hz := sizeF_take HS.out k
      rw [← HZ.out] at hz
      have i1 : (k : Int) < (n : Int) := by omega
      have i0 : (0 : Int) ≤ (k : Int) := by omega
      have wk : IntKind.i64.wrap ((k : Int) + 1) = ((k + 1 : Nat) : Int) := by rw [IntKind.wrap_i64]; omega
      have HZ2 : Hid (z + (l.getD k default).data.size = sizeF (l.take (k + 1))) := hid (by rw [HT.out, sizeF_snoc, ← HZ.out])
      generalize (l.getD k default).data = x2 at *
      have wz : IntKind.i64.wrap ((z : Int) + (x2.size : Int)) = ((z + x2.size : Nat) : Int) := by rw [IntKind.wrap_i64]; omega
      clear HT
      go_wp2_with fail
      go_roundw
      case rel => exact ⟨k + 1, _, by omega, by rfl, rfl, HZ2, HB⟩
      case measure => first | (simp [intOf]; done) | (simp [intOf]; omega)
    · obtain rfl : n = k := by omega
      have j1 : ¬ ((n : Int) < (n : Int)) := by omega
      have hz : z = sizeF l := by rw [HZ.out, HN.out, List.take_length]
      go_wp2_with fail
      go_ret
      exact ⟨by rw [← hz]; rfl, HB.out⟩
end Go.Proofs.YtnhekngmgjnodaaDoor
