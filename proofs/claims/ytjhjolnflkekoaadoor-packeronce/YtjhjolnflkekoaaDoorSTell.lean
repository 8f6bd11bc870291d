/- The contract of tell: the eight numbers as bytes; of what was there nothing changes. -/
import Derived.Test.YtjhjolnflkekoaaDoorSOut
import Derived.Test.YtjhjolnflkekoaaDoorSTurn
import Derived.Deep.Light
import Derived.KernelRfl
namespace Go.Proofs.YtjhjolnflkekoaaDoor.S
open Go.RowKit
namespace Sha
/-- a number of 32 bits, the highest byte first; the first j bytes of it -/
def be4 (m j : Nat) : List Nat := (List.range j).map fun i => m / 2 ^ (24 - 8 * i) % 256
theorem be4_succ (m j : Nat) : be4 m (j + 1) = be4 m j ++ [m / 2 ^ (24 - 8 * j) % 256] := by
  simp [be4, List.range_succ]
theorem be4_lt (m j : Nat) : ∀ x ∈ be4 m j, x < 256 := by
  intro x hx
  simp only [be4, List.mem_map] at hx
  obtain ⟨i, _, rfl⟩ := hx
  exact Nat.mod_lt _ (by decide)
def tells (l : List Nat) : List Nat := l.flatMap fun x => be4 x 4
def tell (s : S8) : List Nat := tells (S8.L s)
theorem tells_lt (l : List Nat) : ∀ x ∈ tells l, x < 256 := by
  intro x hx
  simp only [tells, List.mem_flatMap] at hx
  obtain ⟨y, _, hy⟩ := hx
  exact be4_lt y 4 x hy
theorem tells_snoc (l : List Nat) (x : Nat) : tells (l ++ [x]) = tells l ++ be4 x 4 := by simp [tells]
theorem tells_length (l : List Nat) : (tells l).length = 4 * l.length := by
  induction l with
  | nil => rfl
  | cons x l ih => simp [tells, be4] at ih ⊢; omega
end Sha
set_option maxRecDepth 20000 in
set_option maxHeartbeats 1000000 in
theorem tellNumbers_any (t : Sha.S8) (ht : t.ok) (w : World) :
    Calls Tryd.prog 35 #[.agg (S8v t)] w fun e w' => e = .returned (.string (ofBs (Sha.tell t))) ∧ Below w.heap.size w w' := by
  have hidx : Hid (∀ j : Nat, j < 8 → ∀ w, (Instr.index 65 (.agg (S8v t)) (.int .i64 (j : Int))).run Tryd.prog w = .ok (.int .u32 (((S8.L t).getD j 0 : Nat) : Int)) w) := by
    intro j hj w
    rcases eight hj with rfl | rfl | rfl | rfl | rfl | rfl | rfl | rfl <;> kernel_rfl
  have hlt : Hid (∀ j, (S8.L t).getD j 0 < 4294967296) := by
    intro j
    apply getD_lt _ _ (by decide)
    intro x hx
    obtain ⟨h1, h2, h3, h4, h5, h6, h7, h8⟩ := ht
    simp only [S8.L, List.mem_cons, List.not_mem_nil, or_false] at hx
    omega
  have hf : Hid (∀ o, Holds (w.heap.size + 1) [] ((w.alloc o).alloc (.cells #[.pointer none, .slice none 0 0] 80))) := fun o => Holds.fresh (w.alloc o) _ (by simp)
  have hi41 : Hid ((Tryd.prog.info? 65).map (·.size) = some (S8v t).toList.length) := by
    unfold Hid; rw [show (S8v t).toList.length = 8 from rfl]; kernel_rfl
  have Hr : Hid (∀ o, ((w.alloc (.cells (S8v t) 65)).alloc o).rangeAt w.heap.size 0 (S8v t).toList) := fun o => ((Has.new _ _ _ _ rfl).alloc o).range
  go_enter Tryd.func35, Tryd.ntmps35
  go_wp2_with (refine wpList_load_mid rfl 65 _ rfl w.heap.size 0 rfl _ _ (Hr.out _) Tryd.underlying65 rfl hi41.out ?_)
  go_loopw [8] (fun v wr => ∃ i : Nat, i ≤ 8 ∧ v = .int .i64 (i : Int) ∧ Holds (w.heap.size + 1) (Sha.tells ((S8.L t).take i)) wr ∧ Below w.heap.size w wr) (fun v _ => 8 - (intOf v).toNat)
  case atStart => exact ⟨0, by omega, rfl, hf.out _, ((Below.refl _ _).alloc (Nat.le_refl _) _).alloc (by simp) _⟩
  case round =>
    clear hf Hr hi41
    obtain ⟨i, hi, rfl, h1, b1⟩ := hrel
    by_cases hi8 : i < 8
    · have hx := hidx.out i hi8
      have dI : decide ((i : Int) < 8) = true := by simp; omega
      have hl := hlt.out i
      have hll : Hid ((Sha.tells ((S8.L t).take i)).length ≤ 32) := by
        unfold Hid; rw [Sha.tells_length, List.length_take]; omega
      have hsn : Hid (Sha.tells ((S8.L t).take (i + 1)) = Sha.tells ((S8.L t).take i) ++ Sha.be4 ((S8.L t).getD i 0) 4) := by
        unfold Hid
        rw [← Sha.tells_snoc, List.take_succ_eq_append_getElem (show i < (S8.L t).length from hi8)]
        congr 2
        rw [List.getD_eq_getElem?_getD, List.getElem?_eq_getElem (show i < (S8.L t).length from hi8)]
        rfl
      generalize (S8.L t).getD i 0 = x at hx hl hsn
      generalize Sha.tells ((S8.L t).take i) = acc at h1 hsn hll
      go_wp2_with fail
      go_loopw [6] (fun v wr => ∃ j : Nat, j ≤ 4 ∧ v = .int .i64 (24 - 8 * (j : Int)) ∧ Holds (w.heap.size + 1) (acc ++ Sha.be4 x j) wr ∧ Below w.heap.size w wr) (fun v _ => (intOf v + 8).toNat)
      case atStart => exact ⟨0, by omega, by simp, by simpa [Sha.be4] using h1, b1⟩
      case round =>
        clear h1 b1
        obtain ⟨j, hj, rfl, h1, b1⟩ := hrel
        by_cases hlt : j < 4
        · have d0 : decide ((0 : Int) ≤ 24 - 8 * (j : Int)) = true := by simp; omega
          have s0 : (0 : Int) ≤ 24 - 8 * (j : Int) := by omega
          go_wp2_with fail
          refine (write_any (w.heap.size + 1) _ _ (x / 2 ^ (24 - 8 * j) % 256) _ (by simp) h1 (by have := hll.out; simp [Sha.be4]; omega)).mono ?_
          rintro e w2 ⟨rfl, h2, b2⟩
          go_wp2_with fail
          rw [List.append_assoc, ← Sha.be4_succ] at h2
          go_roundw
          case rel =>
            exact ⟨j + 1, by omega, by go_num, h2, b1.trans (b2.mono (by omega))⟩
          case measure => simp [intOf]; omega
        · obtain rfl : j = 4 := by omega
          rw [← hsn.out] at h1
          go_wp2_with fail
          go_roundw
          case rel =>
            exact ⟨i + 1, by omega, by go_num, h1, b1⟩
          case measure => simp [intOf]; omega
    · obtain rfl : i = 8 := by omega
      have e8 : (S8.L t).take 8 = S8.L t := rfl
      rw [e8] at h1
      go_wp2_with (go_at_call 47; refine (tell_any (w.heap.size + 1) _ _ h1 (Sha.tells_lt _)).mono ?_; rintro e w2 ⟨rfl, b2⟩)
      go_ret
      exact ⟨rfl, b1.trans (b2.mono (by omega))⟩
end Go.Proofs.YtjhjolnflkekoaaDoor.S
