/- What is handed in: lists of rows, and rows, as they are read. -/
import Derived.Test.YtjgjcbgeekfkkaaProg2
import Derived.WalkKit
import Derived.ProofKit
import Derived.OpenShut
import Derived.Lib.SmallJoins
import Derived.Carry
import Derived.Deep.Matrix
namespace Go.Proofs.Ytjgjcbgeekfkkaa
open Go.ChangeShapes Go.WideShapes Go.ChangeAt Go.RowKit Go.Joins
theorem own : ownKnob Try.prog.godebug = none := by kernel_rfl
theorem laidOut : laidOutB Try.prog = true := by kernel_rfl
theorem cells23 : Try.prog.cellsOf 23 = 1 := by kernel_rfl
theorem cells5 : Try.prog.cellsOf 5 = 1 := by kernel_rfl
theorem plain_of {W : World} {a : Addr} {v : Value} (h : W.cell? (a.add 0) = some v) : ∃ b o, a = ⟨b, o, none⟩ ∧ b < W.heap.size := by
  obtain ⟨b, o, s⟩ := a
  have hs : s = none := by simpa [Addr.add] using World.cell?_spot h
  subst hs
  exact ⟨b, o, rfl, World.block_lt_of_cell? (h := h)⟩
theorem byte_of {n : Int} (h : (Lit.int .u8 n).wf = true) : ∃ x : Nat, n = (x : Int) ∧ x < 256 := by
  have := bounds_u8 h
  exact ⟨n.toNat, by omega, by omega⟩
theorem row_of {W : World} (A : Option Addr) (L C : Nat) (Z : List Int) (h1 : L ≤ C) (h2 : C ≤ maxLen) (h3 : Z.length = C) (h4 : ∀ n ∈ Z, (Lit.int .u8 n).wf = true) (h5 : A = none → C = 0)
    (h6 : ∀ a', A = some a' → ∀ c, c < C → W.cell? (a'.add c) = some (.int .u8 (Z.getD c 0))) : Row8 W (.slice A L C) ((Z.take L).map Int.toNat) := by
  have hlen : ((Z.take L).map Int.toNat).length = L := by simp; omega
  refine ⟨A, C, by rw [hlen], by rw [hlen]; unfold maxLen at h2; omega, fun x hx => ?_, fun hp => ?_⟩
  · simp only [List.mem_map] at hx
    obtain ⟨n, hn, rfl⟩ := hx
    obtain ⟨y, rfl, hy⟩ := byte_of (h4 n (List.mem_of_mem_take hn))
    simpa using hy
  · rw [hlen] at hp
    cases A with
    | none => have := h5 rfl; omega
    | some a' =>
      have hc := h6 a' rfl
      obtain ⟨b, o, rfl, hb⟩ := plain_of (hc 0 (by omega))
      refine ⟨b, o, rfl, hb, fun j hj => ?_⟩
      rw [hlen] at hj
      have hcj := hc j (by omega)
      rw [add_plain] at hcj
      have hj2 : j < Z.length := by omega
      obtain ⟨y, hy, hy2⟩ := byte_of (h4 (Z.getD j 0) (by rw [List.getD_eq_getElem?_getD, List.getElem?_eq_getElem hj2]; exact List.getElem_mem hj2))
      rw [hcj, hy]
      have : ((Z.take L).map Int.toNat).getD j 0 = y := by
        have hy' : Z[j] = (y : Int) := by
          rw [List.getD_eq_getElem?_getD, List.getElem?_eq_getElem hj2] at hy; simpa using hy
        rw [List.getD_eq_getElem?_getD, List.getElem?_map, List.getElem?_take, if_pos hj, List.getElem?_eq_getElem hj2]
        simp [hy']
      rw [this]
theorem open_mat {H : Type} {enc : TypeId × Value → H} {W : World} {b0 : Nat} {v : Value} {d : DataW H} {p : List MemPlace} (hv : Value.okWide Try.prog W .any b0 22 v) (h : DataW.Trod enc Try.prog W 0 (fun _ => true) true 22 v d p) :
    ∃ m, Mat W v m := by
  obtain ⟨a0, len, cap, rfl⟩ := okWide_slice Try.underlying22 hv
  obtain ⟨fuel, hf⟩ := h
  rcases Go.Deep.open_int_rows Try.underlying22 Try.underlying23 Try.underlying5 cells23 cells5 hf with ⟨hcs, _⟩ | ⟨a, len', cap', A, L, C, Z, hcs, _, hl, hm, _, hr⟩
  · simp [Value.cells] at hcs
    obtain ⟨rfl, rfl, rfl⟩ := hcs
    exact ⟨[], Mat.nil W⟩
  · simp [Value.cells] at hcs
    obtain ⟨rfl, rfl, rfl⟩ := hcs
    have hlen : ((List.range len).map fun r => ((Z r).take (L r)).map Int.toNat).length = len := by simp
    refine ⟨(List.range len).map fun r => ((Z r).take (L r)).map Int.toNat, some a, cap, by rw [hlen], by rw [hlen]; unfold maxLen at hm; omega, fun hp => ?_⟩
    rw [hlen] at hp
    obtain ⟨b, o, rfl, hb⟩ := plain_of (hr 0 (by omega)).1
    refine ⟨b, o, rfl, hb, fun j hj => ?_⟩
    rw [hlen] at hj
    obtain ⟨k1, k2, k3, k4, k5, k6, k7⟩ := hr j (by omega)
    rw [add_plain] at k1
    refine ⟨_, k1, ?_⟩
    have e : ((List.range len).map fun r => ((Z r).take (L r)).map Int.toNat).getD j [] = ((Z j).take (L j)).map Int.toNat := by
      rw [List.getD_eq_getElem?_getD, List.getElem?_map, List.getElem?_range hj]; rfl
    rw [e]
    exact row_of (A j) (L j) (C j) (Z j) k2 k3 k4 k5 k6 (fun a' ha' => (k7 a' ha').2)
theorem open_rowC {H : Type} {enc : TypeId × Value → H} {W : World} {b0 : Nat} {v : Value} {d : DataW H} {p : List MemPlace} (hv : Value.okWide Try.prog W .any b0 23 v) (h : DataW.Trod enc Try.prog W 0 (fun _ => true) true 23 v d p) :
    ∃ l, RowC W v l := by
  obtain ⟨a0, len, cap, rfl⟩ := okWide_slice Try.underlying23 hv
  obtain ⟨fuel, hf⟩ := h
  rcases open_ints Try.underlying23 Try.underlying5 cells5 hf with ⟨hcs, hx⟩ | ⟨a, len', cap', zs, hcs, _, hl, hm, hz, hx, hcell, hwz⟩
  · simp [Value.cells] at hcs
    obtain ⟨rfl, rfl, rfl⟩ := hcs
    exact ⟨[], Row8.nil W, fun a n c e => by simp only [Value.slice.injEq] at e; omega⟩
  · simp [Value.cells] at hcs
    obtain ⟨rfl, rfl, rfl⟩ := hcs
    simp at hz
    exact ⟨_, row_of (some a) len cap zs hl hm hz hwz (fun h => by cases h) (fun a' ha' c hc => by cases ha'; exact hcell c (by omega)), fun a n c e => by simp only [Value.slice.injEq] at e; unfold maxLen at hm; omega⟩
end Go.Proofs.Ytjgjcbgeekfkkaa
