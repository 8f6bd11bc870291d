/- A list of files that is handed in holds at most as many as it has room for. -/
import Derived.Test.YtnhekngmgjnodaaDoorOpen
namespace Go.Proofs.YtnhekngmgjnodaaDoor
open Go.ChangeShapes Go.WideShapes Go.ChangeAt Go.RowKit Go.Joins Go.WideMaps Go.WideElems
open Pa
set_option linter.unusedVariables false
theorem open_filesC {H : Type} {enc : TypeId × Value → H} {W : World} {base : Nat} {sp : Nat → Bool} {hd : Bool} {b0 : Nat} {v : Value} {d : DataW H} {p : List MemPlace} (hv : Value.okWide Tryd.prog W .any b0 22 v) (h : DataW.Trod enc Tryd.prog W base sp hd 22 v d p) (hw : ∀ n ∈ d.weights Tryd.prog 22, n ≤ reachBytes) :
    ∃ (l : List Fl) (A : Option Addr) (c : Nat), v = .slice A l.length c ∧ Fs W A l ∧ (l.length ≤ reachBytes ∧ l.length ≤ c) ∧ ∀ x ∈ l, x.path.size ≤ reachBytes ∧ x.data.size ≤ reachBytes := by
  obtain ⟨x0, y0, z0, rfl⟩ := okWide_slice Tryd.underlying22 hv
  obtain ⟨fuel, hf⟩ := h
  obtain ⟨A1, l1, c1', e3, q1', z1, o1, r1'⟩ := open_rows fl3 _ (fun _ => rfl) (by decide) Tryd.underlying22 cells38 bytes38 (by decide) open_file hf hw
  simp [Value.cells] at e3
  obtain ⟨rfl, rfl, rfl⟩ := e3
  exact ⟨l1, _, _, rfl, fs_of_rows r1', ⟨z1, q1'⟩, o1⟩
end Go.Proofs.YtnhekngmgjnodaaDoor
