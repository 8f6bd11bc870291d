/- The contract of ending: what fills up so many bytes; of what was there nothing changes. -/
import Derived.Test.YtjhjolnflkekoaaDoorSOut
import Derived.Test.YtjhjolnflkekoaaDoorSTurn
import Derived.Deep.Light
import Derived.KernelRfl
namespace Go.Proofs.YtjhjolnflkekoaaDoor.S
open Go.RowKit
namespace Sha
/-- how many noughts behind so many bytes -/
def noughts (n : Nat) : Nat := (119 - n % 64) % 64
/-- a number of 64 bits, the highest byte first; the first j bytes of it -/
def be8 (m j : Nat) : List Nat := (List.range j).map fun i => m / 2 ^ (56 - 8 * i) % 256
def ending (n : Nat) : List Nat := [128] ++ List.replicate (noughts n) 0 ++ be8 (n * 8) 8
theorem be8_succ (m j : Nat) : be8 m (j + 1) = be8 m j ++ [m / 2 ^ (56 - 8 * j) % 256] := by
  simp [be8, List.range_succ]
theorem noughts_lt (n : Nat) : noughts n < 64 := Nat.mod_lt _ (by decide)
theorem noughts_at (n : Nat) : (n + 1 + noughts n) % 64 = 56 := by unfold noughts; omega
theorem noughts_not (n k : Nat) (hk : k < noughts n) : (n + 1 + k) % 64 ≠ 56 := by unfold noughts at hk; omega
theorem be8_lt (m j : Nat) : ∀ x ∈ be8 m j, x < 256 := by
  intro x hx
  simp only [be8, List.mem_map] at hx
  obtain ⟨i, _, rfl⟩ := hx
  exact Nat.mod_lt _ (by decide)
theorem ending_lt (n : Nat) : ∀ x ∈ ending n, x < 256 := by
  intro x hx
  simp only [ending, List.mem_append] at hx
  rcases hx with (hx | hx) | hx
  · simp at hx; omega
  · rw [List.eq_of_mem_replicate hx]; decide
  · exact be8_lt _ _ x hx
end Sha
set_option maxRecDepth 20000 in
set_option maxHeartbeats 1000000 in
theorem ending_any (n : Nat) (hn : n ≤ 1000000000000) (w : World) :
    Calls Tryd.prog 34 #[.int .i64 (n : Int)] w fun e w' => e = .returned (.string (ofBs (Sha.ending n))) ∧ Below w.heap.size w w' := by
  have hno := Sha.noughts_lt n
  go_enter Tryd.func34, Tryd.ntmps34
  have hf : Hid (Holds w.heap.size [] (w.alloc (.cells #[.pointer none, .slice none 0 0] 80))) := Holds.fresh w _ rfl
  go_wp2_with fail
  refine (write_any w.heap.size [] 128 128 _ rfl hf.out (by simp)).mono ?_
  rintro e w1 ⟨rfl, h1, b1⟩
  have b1' : Below w.heap.size w w1 := ((Below.refl _ _).alloc (Nat.le_refl _) _).trans b1
  clear b1 hf
  go_wp2_with fail
  go_loopw [4] (fun v wr => ∃ k : Nat, k ≤ Sha.noughts n ∧ v = .int .i64 ((n : Int) + 1 + (k : Int)) ∧ Holds w.heap.size ([128] ++ List.replicate k 0) wr ∧ Below w.heap.size w wr) (fun v _ => n + 65 - (intOf v).toNat)
  case atStart => exact ⟨0, by omega, by simp, h1, b1'⟩
  case round =>
    clear h1 b1'
    obtain ⟨k, hk, rfl, h1, b1⟩ := hrel
    by_cases hlt : k < Sha.noughts n
    · have hne := Sha.noughts_not n k hlt
      have hne' : (((n : Int) + 1 + (k : Int)) % 64 != 56) = true := by rw [bne_iff_ne]; omega
      go_wp2_with (go_at_call 46; refine (write_any w.heap.size _ 0 0 _ rfl h1 (by simp; omega)).mono ?_; rintro e w2 ⟨rfl, h2, b2⟩)
      refine ⟨⟨k + 1, by omega, by go_num, ?_, b1.trans b2⟩, by simp [intOf]; omega⟩
      rw [List.replicate_succ', ← List.append_assoc]; exact h2
    · obtain rfl : k = Sha.noughts n := by omega
      have hat := Sha.noughts_at n
      have hne' : (((n : Int) + 1 + (Sha.noughts n : Int)) % 64 != 56) = false := by rw [bne_eq_false_iff_eq]; omega
      have Hat : Hid _ := hat
      clear hat
      generalize hz' : Sha.noughts n = z at *
      have hz : Hid _ := hz'
      clear hz'
      go_wp2_with fail
      go_loopw [6] (fun v wr => ∃ j : Nat, j ≤ 8 ∧ v = .int .i64 (56 - 8 * (j : Int)) ∧ Holds w.heap.size ([128] ++ List.replicate z 0 ++ Sha.be8 (n * 8) j) wr ∧ Below w.heap.size w wr) (fun v _ => (intOf v + 8).toNat)
      case atStart => exact ⟨0, by omega, by simp, by simpa [Sha.be8] using h1, b1⟩
      case round =>
        clear h1 b1
        obtain ⟨j, hj, rfl, h1, b1⟩ := hrel
        by_cases hlt : j < 8
        · have d0 : decide ((0 : Int) ≤ 56 - 8 * (j : Int)) = true := by simp; omega
          have s0 : (0 : Int) ≤ 56 - 8 * (j : Int) := by omega
          go_wp2_with fail
          refine (write_any w.heap.size _ _ (n * 8 / 2 ^ (56 - 8 * j) % 256) _ (by simp) h1 (by simp [Sha.be8]; omega)).mono ?_
          rintro e w2 ⟨rfl, h2, b2⟩
          go_wp2_with fail
          refine ⟨⟨j + 1, by omega, by go_num, ?_, b1.trans b2⟩, by simp [intOf]; omega⟩
          rw [Sha.be8_succ, ← List.append_assoc]; exact h2
        · obtain rfl : j = 8 := by omega
          have hall : ∀ x ∈ [128] ++ List.replicate z 0 ++ Sha.be8 (n * 8) 8, x < 256 := by
            rw [← hz.out]; exact Sha.ending_lt n
          go_wp2_with (go_at_call 47; refine (tell_any w.heap.size _ _ h1 hall).mono ?_; rintro e w2 ⟨rfl, b2⟩)
          go_ret
          rw [← hz.out]
          exact ⟨rfl, b1.trans b2⟩
end Go.Proofs.YtjhjolnflkekoaaDoor.S
/- The contract of tell: the eight numbers as bytes; of what was there nothing changes. -/
namespace Go.Proofs.YtjhjolnflkekoaaDoor.S
open Go.RowKit
namespace Sha
/-- a number of 32 bits, the highest byte first; the first j bytes of it -/
def be4 (m j : Nat) : List Nat := (List.range j).map fun i => m / 2 ^ (24 - 8 * i) % 256
theorem be4_succ (m j : Nat) : be4 m (j + 1) = be4 m j ++ [m / 2 ^ (24 - 8 * j) % 256] := by
  simp [be4, List.range_succ]
theorem be4_lt (m j : Nat) : ∀ x ∈ be4 m j, x < 256 := by
  intro x hx
  simp only [be4, List.mem_map] at hx
  obtain ⟨i, _, rfl⟩ := hx
  exact Nat.mod_lt _ (by decide)
def tells (l : List Nat) : List Nat := l.flatMap fun x => be4 x 4
def tell (s : S8) : List Nat := tells (S8.L s)
theorem tells_lt (l : List Nat) : ∀ x ∈ tells l, x < 256 := by
  intro x hx
  simp only [tells, List.mem_flatMap] at hx
  obtain ⟨y, _, hy⟩ := hx
  exact be4_lt y 4 x hy
theorem tells_snoc (l : List Nat) (x : Nat) : tells (l ++ [x]) = tells l ++ be4 x 4 := by simp [tells]
theorem tells_length (l : List Nat) : (tells l).length = 4 * l.length := by
  induction l with
  | nil => rfl
  | cons x l ih => simp [tells, be4] at ih ⊢; omega
end Sha
set_option maxRecDepth 20000 in
set_option maxHeartbeats 1000000 in
theorem tellNumbers_any (t : Sha.S8) (ht : t.ok) (w : World) :
    Calls Tryd.prog 35 #[.agg (S8v t)] w fun e w' => e = .returned (.string (ofBs (Sha.tell t))) ∧ Below w.heap.size w w' := by
  have hidx : Hid (∀ j : Nat, j < 8 → ∀ w, (Instr.index 65 (.agg (S8v t)) (.int .i64 (j : Int))).run Tryd.prog w = .ok (.int .u32 (((S8.L t).getD j 0 : Nat) : Int)) w) := by
    intro j hj w
    rcases eight hj with rfl | rfl | rfl | rfl | rfl | rfl | rfl | rfl <;> kernel_rfl
  have hlt : Hid (∀ j, (S8.L t).getD j 0 < 4294967296) := by
    intro j
    apply getD_lt _ _ (by decide)
    intro x hx
    obtain ⟨h1, h2, h3, h4, h5, h6, h7, h8⟩ := ht
    simp only [S8.L, List.mem_cons, List.not_mem_nil, or_false] at hx
    omega
  have hf : Hid (∀ o, Holds (w.heap.size + 1) [] ((w.alloc o).alloc (.cells #[.pointer none, .slice none 0 0] 80))) := fun o => Holds.fresh (w.alloc o) _ (by simp)
  have hi41 : Hid ((Tryd.prog.info? 65).map (·.size) = some (S8v t).toList.length) := by
    unfold Hid; rw [show (S8v t).toList.length = 8 from rfl]; kernel_rfl
  have Hr : Hid (∀ o, ((w.alloc (.cells (S8v t) 65)).alloc o).rangeAt w.heap.size 0 (S8v t).toList) := fun o => ((Has.new _ _ _ _ rfl).alloc o).range
  go_enter Tryd.func35, Tryd.ntmps35
  go_wp2_with (refine wpList_load_mid rfl 65 _ rfl w.heap.size 0 rfl _ _ (Hr.out _) Tryd.underlying65 rfl hi41.out ?_)
  go_loopw [8] (fun v wr => ∃ i : Nat, i ≤ 8 ∧ v = .int .i64 (i : Int) ∧ Holds (w.heap.size + 1) (Sha.tells ((S8.L t).take i)) wr ∧ Below w.heap.size w wr) (fun v _ => 8 - (intOf v).toNat)
  case atStart => exact ⟨0, by omega, rfl, hf.out _, ((Below.refl _ _).alloc (Nat.le_refl _) _).alloc (by simp) _⟩
  case round =>
    clear hf Hr hi41
    obtain ⟨i, hi, rfl, h1, b1⟩ := hrel
    by_cases hi8 : i < 8
    · have hx := hidx.out i hi8
      have dI : decide ((i : Int) < 8) = true := by simp; omega
      have hl := hlt.out i
      have hll : Hid ((Sha.tells ((S8.L t).take i)).length ≤ 32) := by
        unfold Hid; rw [Sha.tells_length, List.length_take]; omega
      have hsn : Hid (Sha.tells ((S8.L t).take (i + 1)) = Sha.tells ((S8.L t).take i) ++ Sha.be4 ((S8.L t).getD i 0) 4) := by
        unfold Hid
        rw [← Sha.tells_snoc, List.take_succ_eq_append_getElem (show i < (S8.L t).length from hi8)]
        congr 2
        rw [List.getD_eq_getElem?_getD, List.getElem?_eq_getElem (show i < (S8.L t).length from hi8)]
        rfl
      generalize (S8.L t).getD i 0 = x at hx hl hsn
      generalize Sha.tells ((S8.L t).take i) = acc at h1 hsn hll
      go_wp2_with fail
      go_loopw [6] (fun v wr => ∃ j : Nat, j ≤ 4 ∧ v = .int .i64 (24 - 8 * (j : Int)) ∧ Holds (w.heap.size + 1) (acc ++ Sha.be4 x j) wr ∧ Below w.heap.size w wr) (fun v _ => (intOf v + 8).toNat)
      case atStart => exact ⟨0, by omega, by simp, by simpa [Sha.be4] using h1, b1⟩
      case round =>
        clear h1 b1
        obtain ⟨j, hj, rfl, h1, b1⟩ := hrel
        by_cases hlt : j < 4
        · have d0 : decide ((0 : Int) ≤ 24 - 8 * (j : Int)) = true := by simp; omega
          have s0 : (0 : Int) ≤ 24 - 8 * (j : Int) := by omega
          go_wp2_with fail
          refine (write_any (w.heap.size + 1) _ _ (x / 2 ^ (24 - 8 * j) % 256) _ (by simp) h1 (by have := hll.out; simp [Sha.be4]; omega)).mono ?_
          rintro e w2 ⟨rfl, h2, b2⟩
          go_wp2_with fail
          rw [List.append_assoc, ← Sha.be4_succ] at h2
          go_roundw
          case rel =>
            exact ⟨j + 1, by omega, by go_num, h2, b1.trans (b2.mono (by omega))⟩
          case measure => simp [intOf]; omega
        · obtain rfl : j = 4 := by omega
          rw [← hsn.out] at h1
          go_wp2_with fail
          go_roundw
          case rel =>
            exact ⟨i + 1, by omega, by go_num, h1, b1⟩
          case measure => simp [intOf]; omega
    · obtain rfl : i = 8 := by omega
      have e8 : (S8.L t).take 8 = S8.L t := rfl
      rw [e8] at h1
      go_wp2_with (go_at_call 47; refine (tell_any (w.heap.size + 1) _ _ h1 (Sha.tells_lt _)).mono ?_; rintro e w2 ⟨rfl, b2⟩)
      go_ret
      exact ⟨rfl, b1.trans (b2.mono (by omega))⟩
end Go.Proofs.YtjhjolnflkekoaaDoor.S
