/- The contract of Hex; of what was there nothing changes. -/
import Derived.Test.YtnhakbpalfcmfaaDoorOut
import Derived.Test.YtnhakbpalfcmfaaDoorTurn
import Derived.Deep.Light
import Derived.KernelRfl
namespace Go.Proofs.YtnhakbpalfcmfaaDoor
open Go.RowKit
namespace Sha
def hexChar (n : Nat) : Nat := if n < 10 then 48 + n else 87 + n
def hex (l : List Nat) : List Nat := l.flatMap fun x => [hexChar (x / 16), hexChar (x % 16)]
end Sha
set_option maxRecDepth 20000 in
theorem hexLit_index (n : Nat) (hn : n < 16) (w : World) : (Instr.index 9 (.string ⟨#[48, 49, 50, 51, 52, 53, 54, 55, 56, 57, 97, 98, 99, 100, 101, 102]⟩) (.int .u8 (n : Int))).run Tryd.prog w = .ok (.int .u8 ((Sha.hexChar n : Nat) : Int)) w := by
  have : n = 0 ∨ n = 1 ∨ n = 2 ∨ n = 3 ∨ n = 4 ∨ n = 5 ∨ n = 6 ∨ n = 7 ∨ n = 8 ∨ n = 9 ∨ n = 10 ∨ n = 11 ∨ n = 12 ∨ n = 13 ∨ n = 14 ∨ n = 15 := by omega
  rcases this with rfl | rfl | rfl | rfl | rfl | rfl | rfl | rfl | rfl | rfl | rfl | rfl | rfl | rfl | rfl | rfl <;> rfl
theorem and15 (x : Nat) (hx : x < 256) : bits BinOp.and IntKind.u8 (x : Int) 15 = ((x % 16 : Nat) : Int) := by
  rw [show (15 : Int) = ((15 : Nat) : Int) from rfl, u8_and_nat x 15 hx (by decide)]
  rw [show (15 : Nat) = 2 ^ 4 - 1 from rfl, Nat.and_two_pow_sub_one_eq_mod]
theorem bs_take_succ (s : ByteArray) (k : Nat) (h : k < s.size) : (bs s).take (k + 1) = (bs s).take k ++ [s[k].toNat] := by
  rw [List.take_succ_eq_append_getElem (by rw [bs_length]; exact h)]
  congr 1
  simp [bs]
  rfl
theorem hex_snoc (l : List Nat) (x : Nat) : Sha.hex (l ++ [x]) = Sha.hex l ++ [Sha.hexChar (x / 16)] ++ [Sha.hexChar (x % 16)] := by simp [Sha.hex]
theorem hexChar_lt (n : Nat) (h : n < 16) : Sha.hexChar n < 256 := by unfold Sha.hexChar; split <;> omega
theorem hex_lt (l : List Nat) (h : ∀ x ∈ l, x < 256) : ∀ x ∈ Sha.hex l, x < 256 := by
  intro x hx
  simp only [Sha.hex, List.mem_flatMap, List.mem_cons, List.not_mem_nil, or_false] at hx
  obtain ⟨y, hy, hx⟩ := hx
  have := h y hy
  rcases hx with rfl | rfl
  · exact hexChar_lt _ (by omega)
  · exact hexChar_lt _ (by omega)
theorem hex_length (l : List Nat) : (Sha.hex l).length = 2 * l.length := by
  induction l with
  | nil => rfl
  | cons x l ih => simp [Sha.hex] at ih ⊢; omega
set_option maxRecDepth 20000 in
set_option maxHeartbeats 1000000 in
theorem hex_any (s : ByteArray) (hs : s.size ≤ 900000000000) (w : World) :
    Calls Tryd.prog 26 #[.string s] w fun e w' => e = .returned (.string (ofBs (Sha.hex (bs s)))) ∧ Below w.heap.size w w' := by
  go_enter Tryd.func26, Tryd.ntmps26
  go_wp2_with fail
  refine (room_any w.heap.size (2 * s.size) _ _ (by simp) (Has.new w w.heap.size _ 66 rfl) (by omega)).mono ?_
  rintro e w1 ⟨rfl, h1, b1⟩
  have b1' : Below w.heap.size w w1 := ((Below.refl _ _).alloc (Nat.le_refl _) _).trans b1
  clear b1
  go_wp2_with fail
  go_loopw [11] (fun v wr => ∃ k : Nat, k ≤ s.size ∧ v = .int .i64 (k : Int) ∧ Holds w.heap.size (Sha.hex ((bs s).take k)) wr ∧ Below w.heap.size w wr) (fun v _ => s.size - (intOf v).toNat)
  case atStart => exact ⟨0, by omega, rfl, h1, b1'⟩
  case round =>
    clear h1 b1'
    obtain ⟨k, hk, rfl, h1, b1⟩ := hrel
    by_cases hlt : k < s.size
    · have hx : s[k].toNat < 256 := s[k].toNat_lt
      have hsn := bs_take_succ s k hlt
      have HS : Hid (Sha.hex ((bs s).take (k + 1)) = Sha.hex ((bs s).take k) ++ [Sha.hexChar (s[k].toNat / 16)] ++ [Sha.hexChar (s[k].toNat % 16)]) := by
        unfold Hid; rw [hsn, hex_snoc]
      have hll : Hid ((Sha.hex ((bs s).take k)).length ≤ 2 * s.size) := by unfold Hid; rw [hex_length, List.length_take, bs_length]; omega
      have e1 : ∀ w, (Instr.index 9 (.string ⟨#[48, 49, 50, 51, 52, 53, 54, 55, 56, 57, 97, 98, 99, 100, 101, 102]⟩) (.int .u8 ((s[k].toNat : Int) / 16))).run Tryd.prog w = .ok (.int .u8 ((Sha.hexChar (s[k].toNat / 16) : Nat) : Int)) w := fun w => hexLit_index (s[k].toNat / 16) (by omega) w
      have e2 : ∀ w, (Instr.index 9 (.string ⟨#[48, 49, 50, 51, 52, 53, 54, 55, 56, 57, 97, 98, 99, 100, 101, 102]⟩) (.int .u8 (bits BinOp.and IntKind.u8 (s[k].toNat : Int) 15))).run Tryd.prog w = .ok (.int .u8 ((Sha.hexChar (s[k].toNat % 16) : Nat) : Int)) w := by
        intro w; rw [and15 _ hx]; exact hexLit_index (s[k].toNat % 16) (by omega) w
      clear hsn hx
      generalize Sha.hex ((bs s).take k) = acc at h1 HS hll
      go_wp2_with fail
      refine (write_any w.heap.size _ _ _ _ rfl h1 (by have := hll.out; omega)).mono ?_
      rintro e w2 ⟨rfl, h2, b2⟩
      go_wp2_with fail
      refine (write_any w.heap.size _ _ _ _ rfl h2 (by have := hll.out; simp; omega)).mono ?_
      rintro e w3 ⟨rfl, h3, b3⟩
      rw [← HS.out] at h3
      go_wp2_with fail
      exact ⟨⟨k + 1, by omega, by go_num, h3, (b1.trans b2).trans b3⟩, by simp [intOf]; omega⟩
    · obtain rfl : k = s.size := by omega
      rw [List.take_of_length_le (by rw [bs_length]; exact Nat.le_refl _)] at h1
      go_wp2_with (go_at_call 36; refine (tell_any w.heap.size _ _ h1 (hex_lt _ (bs_lt s))).mono ?_; rintro e w2 ⟨rfl, b2⟩)
      go_ret
      exact ⟨rfl, b1.trans b2⟩
end Go.Proofs.YtnhakbpalfcmfaaDoor
