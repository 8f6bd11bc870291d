/- The contract of Over, the program's and the document's: a hash over all bytes of a text. -/
import Derived.Test.YtcdhaoaiglmboaaFun
namespace Go.Proofs.Ytcdhaoaiglmboaa
open Go.RowKit
open Gr
def bs (s : ByteArray) : List Nat := s.data.toList.map fun x => x.toNat
theorem bs_length (s : ByteArray) : (bs s).length = s.size := by unfold bs; rw [List.length_map]; rfl
theorem bs_take (s : ByteArray) (k : Nat) (h : k < s.size) : (bs s).take (k + 1) = (bs s).take k ++ [s[k].toNat] := by
  rw [List.take_succ_eq_append_getElem (by rw [bs_length]; exact h)]
  congr 2
  simp [bs]
  rfl
theorem ov_step (h : Nat) (s : ByteArray) (k : Nat) (hk : k < s.size) : ov h ((bs s).take (k + 1)) = roll (ov h ((bs s).take k)) s[k].toNat := by
  rw [bs_take s k hk, ov_snoc]
theorem take_all (s : ByteArray) : (bs s).take s.size = bs s := by rw [← bs_length, List.take_length]
theorem belowCall {w W W' : World} (h : Below w.heap.size w W) (hb : Below W.heap.size W W') : Below w.heap.size w W' := h.trans (hb.mono h.size)
theorem belowSet {B : Nat} {w W : World} (h : Below B w W) (b i : Nat) (v : Value) (hb : B ≤ b) : Below B w (W.setCell ⟨b, i, none⟩ v) := h.setCell hb v
/-- one round of the closure -/
theorem step_any (b h x : Nat) (hx : x < 256) (w : World) (hh : Has w b #[.int .u64 (h : Int)] 22) :
    Calls Try.prog 15 #[.int .u8 (x : Int), .pointer (some ⟨b, 0, none⟩)] w fun e w' => e = .returned (.tuple #[]) ∧ Has w' b #[.int .u64 ((roll h x : Nat) : Int)] 22 ∧ Below b w w' := by
  have c0 : w.cell? ⟨b, 0, none⟩ = some (.int .u64 (h : Int)) := hh.cell 0
  have f0 := hh.frozen 0
  have C := fun W => roll_any h x hx W
  generalize roll h x = y at *
  go_enter Try.func15, Try.ntmps15
  go_wp2_with fail
  refine (C _).mono ?_
  rintro e w' ⟨rfl, rfl⟩
  go_wp2_with fail
  go_end0
  exact ⟨rfl, hh.set 0 _, belowSet (Below.refl b _) b 0 _ (Nat.le_refl b)⟩
theorem each_any (b : Nat) (s : ByteArray) (hs : s.size ≤ 9223372036854775807) (w : World) (hh : Has w b #[.int .u64 0] 22) :
    Calls Try.prog 14 #[.string s, .func (.func 15) #[] #[.pointer (some ⟨b, 0, none⟩)]] w fun e w' => e = .returned (.tuple #[]) ∧ Has w' b #[.int .u64 ((ov 0 (bs s) : Nat) : Int)] 22 ∧ Below b w w' := by
  go_enter Try.func14, Try.ntmps14
  go_wp2_with fail
  go_loopw [7] (fun v wr => ∃ k : Nat, k ≤ s.size ∧ v = .int .i64 (k : Int) ∧ Has wr b #[.int .u64 ((ov 0 ((bs s).take k) : Nat) : Int)] 22 ∧ Below b w wr) (fun v _ => s.size - (intOf v).toNat)
  case atStart => exact ⟨0, by omega, rfl, hh, Below.refl _ _⟩
  case round =>
    clear hh
    obtain ⟨k, hk, rfl, h1, b1⟩ := hrel
    by_cases hlt : k < s.size
    · have x0 : s[k].toNat < 256 := s[k].toNat_lt
      have i0 : (0 : Int) ≤ (k : Int) := by omega
      have i1 : (k : Int) < (s.size : Int) := by omega
      have HS : Hid _ := ov_step 0 s k hlt
      generalize ov 0 (List.take k (bs s)) = y at *
      go_wp2_with fail
      refine (step_any b y s[k].toNat x0 _ h1).mono ?_
      rintro e w2 ⟨rfl, h2, b2⟩
      clear h1
      go_wp2_with fail
      exact ⟨⟨k + 1, by omega, by rfl, by rw [HS.out]; exact h2, b1.trans b2⟩, by simp [intOf]; omega⟩
    · obtain rfl : k = s.size := by omega
      rw [take_all] at h1
      go_wp2_with fail
      go_end0
      exact ⟨rfl, h1, b1⟩
theorem over_any (s : ByteArray) (hs : s.size ≤ 9223372036854775807) (w : World) :
    Calls Try.prog 9 #[.string s] w fun e w' => e = .returned (.int .u64 ((ov 0 (bs s) : Nat) : Int)) ∧ Below w.heap.size w w' := by
  have C := each_any w.heap.size s hs
  generalize ov 0 (bs s) = y at *
  go_enter Try.func9, Try.ntmps9
  go_wp2_with fail
  refine (C _ (Has.new w w.heap.size _ 22 rfl)).mono ?_
  rintro e w2 ⟨rfl, h2, b2⟩
  have c2 : w2.cell? ⟨w.heap.size, 0, none⟩ = some (.int .u64 (y : Int)) := h2.cell 0
  have B2 : Below w.heap.size w w2 := ((Below.refl _ _).alloc (Nat.le_refl _) _).trans b2
  clear C h2 b2
  go_wp2_with fail
  go_ret
  exact ⟨rfl, B2⟩
theorem refOver_any (s : ByteArray) (hs : s.size ≤ 9223372036854775807) (w : World) :
    Calls Try.prog 12 #[.string s] w fun e w' => e = .returned (.int .u64 ((ov 0 (bs s) : Nat) : Int)) ∧ w' = w := by
  go_enter Try.func12, Try.ntmps12
  go_wp2_with fail
  go_loopw [3, 4] (fun v3 v wr => ∃ k : Nat, k ≤ s.size ∧ v3 = .int .u64 ((ov 0 ((bs s).take k) : Nat) : Int) ∧ v = .int .i64 (k : Int) ∧ wr = w) (fun _ v _ => s.size - (intOf v).toNat)
  case atStart => exact ⟨0, by omega, rfl, rfl, rfl⟩
  case round =>
    obtain ⟨k, hk, rfl, rfl, rfl⟩ := hrel
    by_cases hlt : k < s.size
    · have x0 : s[k].toNat < 256 := s[k].toNat_lt
      have i0 : (0 : Int) ≤ (k : Int) := by omega
      have i1 : (k : Int) < (s.size : Int) := by omega
      have HS : Hid _ := ov_step 0 s k hlt
      generalize ov 0 (List.take k (bs s)) = y at *
      go_wp2_with fail
      refine (refRoll_any y s[k].toNat x0 _).mono ?_
      rintro e w2 ⟨rfl, rfl⟩
      go_wp2_with fail
      exact ⟨⟨k + 1, by omega, by rw [HS.out], by rfl, trivial⟩, by simp [intOf]; omega⟩
    · obtain rfl : k = s.size := by omega
      rw [take_all]
      go_wp2_with fail
      go_ret
      exact ⟨rfl, rfl⟩
end Go.Proofs.Ytcdhaoaiglmboaa
