/- What is handed in: texts, and lists of files, as they are read. -/
import Derived.Test.YtnhekngmgjnodaaDoorRd
import Derived.Test.YtnhekngmgjnodaaDoorLaid
import Derived.Deep.Slices
import Derived.Deep.Grids
import Derived.SizedLaws
namespace Go.Proofs.YtnhekngmgjnodaaDoor
open Go.ChangeShapes Go.WideShapes Go.ChangeAt Go.RowKit Go.Joins Go.WideMaps Go.WideElems
open Pa
set_option linter.unusedVariables false
theorem cells4 : Tryd.prog.cellsOf 4 = 1 := by kernel_rfl
theorem cells9 : Tryd.prog.cellsOf 9 = 1 := by kernel_rfl
theorem cells22 : Tryd.prog.cellsOf 22 = 1 := by kernel_rfl
theorem cells38 : Tryd.prog.cellsOf 38 = 3 := by kernel_rfl
theorem bytes38 : Tryd.prog.bytesOf 38 = 40 := by kernel_rfl
theorem plain_of {W : World} {a : Addr} {v : Value} (h : W.cell? (a.add 0) = some v) : ∃ b o, a = ⟨b, o, none⟩ ∧ b < W.heap.size := by
  obtain ⟨b, o, s⟩ := a
  have hs : s = none := by simpa [Addr.add] using World.cell?_spot h
  subst hs
  exact ⟨b, o, rfl, World.block_lt_of_cell? (h := h)⟩
section
variable {H : Type} {enc : TypeId × Value → H} {W : World} {base : Nat} {sp : Nat → Bool} {hd : Bool}
theorem weightsAll_mem {t : TypeId} : ∀ (l : List (DataW H)) (y : DataW H), y ∈ l → ∀ k ∈ y.weights Tryd.prog t, k ∈ DataW.weightsAll Tryd.prog t l := by
  intro l
  induction l with
  | nil => intro y hy; cases hy
  | cons z r ih =>
    intro y hy k hk
    simp only [DataW.weightsAll, List.mem_append]
    rcases List.mem_cons.1 hy with rfl | hy
    · exact .inl hk
    · exact .inr (ih y hy k hk)
theorem open_rows {α : Type} [Inhabited α] {t e : TypeId} {m B : Nat} (cells : α → List Value) (ok : α → Prop) (hm : ∀ x, (cells x).length = m) (h0m : 0 < m) (hu : Tryd.prog.underlying t = some (.slice e)) (hc : Tryd.prog.cellsOf e = m) (hB : Tryd.prog.bytesOf e = B) (h0B : 0 < B)
    (elem : ∀ (fuel : Nat) (cs : List Value) (x : DataW H × List MemPlace), DataW.trod enc Tryd.prog W base sp hd fuel e cs = some x → (∀ n ∈ x.1.weights Tryd.prog e, n ≤ reachBytes) → ∃ a : α, cs = cells a ∧ ok a)
    {fuel : Nat} {cs : List Value} {x : DataW H × List MemPlace} (h : DataW.trod enc Tryd.prog W base sp hd fuel t cs = some x) (hw : ∀ n ∈ x.1.weights Tryd.prog t, n ≤ reachBytes) :
    ∃ (A : Option Addr) (l : List α) (cap : Nat), cs = [.slice A l.length cap] ∧ l.length ≤ cap ∧ l.length ≤ reachBytes ∧ (∀ a ∈ l, ok a) ∧ ∀ j, j < l.length → ∃ g o, A = some ⟨g, o, none⟩ ∧ g < W.heap.size ∧ ∀ i u, (cells (l.getD j default))[i]? = some u → W.cell? ⟨g, o + j * m + i, none⟩ = some u := by
  rcases Go.Deep.open_slice hu h with ⟨hcs, _⟩ | ⟨a, len, cap, k, n, D, Pl, hcs, _, hl, hm', hmm, hx, he⟩
  · exact ⟨none, [], 0, hcs, Nat.le_refl _, Nat.zero_le _, fun a ha => (by cases ha), fun j hj => absurd hj (by simp)⟩
  · have hlm : len ≤ k := by rw [hmm]; split <;> omega
    have hd' : x.1 = .slice ((List.range len).map D) ((List.range (k - len)).map fun j => D (len + j)) := by rw [hx]
    have hwD : ∀ i, i < len → ∀ k ∈ (D i).weights Tryd.prog e, k ≤ reachBytes := fun i hi k hk => hw k (by
      rw [hd']
      simp only [DataW.weights, hu, List.mem_cons, List.mem_append]
      exact .inr (.inl (weightsAll_mem _ (D i) (List.mem_map.2 ⟨i, List.mem_range.2 hi, rfl⟩) k hk)))
    have hlen0 : len ≤ reachBytes := by
      have := hw ((len + (k - len)) * B) (by
        rw [hd']
        simp [DataW.weights, hu, hB])
      refine Nat.le_trans ?_ this
      exact Nat.le_trans (Nat.le_add_right len (k - len)) (Nat.le_mul_of_pos_right _ h0B)
    have each : ∀ i, i < len → ∃ x : α, ok x ∧ ∀ j u, (cells x)[j]? = some u → W.cell? ((a.add (i * m)).add j) = some u := fun i hi => by
      obtain ⟨cs', h1, h2⟩ := he i (by omega)
      rw [hc] at h1
      obtain ⟨_, hcl, hcell⟩ := World.cells?_some h1
      obtain ⟨x, rfl, hok⟩ := elem _ _ _ h2 (hwD i hi)
      refine ⟨x, hok, fun j u hj => ?_⟩
      have hj' : j < m := by have := (List.getElem?_eq_some_iff.1 hj).1; rw [hm] at this; exact this
      rw [hcell j hj', hj]
    by_cases h0 : len = 0
    · subst h0
      exact ⟨some a, [], cap, hcs, Nat.zero_le _, Nat.zero_le _, fun a ha => (by cases ha), fun j hj => absurd hj (by simp)⟩
    · obtain ⟨b, o, rfl, hb⟩ : ∃ b o, a = ⟨b, o, none⟩ ∧ b < W.heap.size := by
        obtain ⟨x, _, hcx⟩ := each 0 (by omega)
        obtain ⟨u, hu0⟩ : ∃ u, (cells x)[0]? = some u := ⟨_, List.getElem?_eq_getElem (by rw [hm]; exact h0m)⟩
        have := hcx 0 _ hu0
        rw [Go.Deep.add_add] at this
        exact plain_of (by simpa using this)
      obtain ⟨f, hff⟩ := Go.Deep.choose_lt each
      have hlen : ((List.range len).map f).length = len := by simp
      refine ⟨_, (List.range len).map f, cap, by rw [hlen]; exact hcs, by rw [hlen]; exact hl, by rw [hlen]; exact hlen0, fun x hx => ?_, fun j hj => ⟨b, o, rfl, hb, fun i u hi => ?_⟩⟩
      · obtain ⟨j, hj, rfl⟩ := List.mem_map.1 hx
        exact (hff j (List.mem_range.1 hj)).1
      · rw [hlen] at hj
        have hget : ((List.range len).map f).getD j default = f j := by
          rw [List.getD_eq_getElem?_getD, List.getElem?_map, List.getElem?_range hj]; rfl
        rw [hget] at hi
        have := (hff j hj).2 i u hi
        rw [add_plain, add_plain] at this
        exact this
theorem open_txt (fuel : Nat) (cs : List Value) (x : DataW H × List MemPlace) (h : DataW.trod enc Tryd.prog W base sp hd fuel 9 cs = some x) (hw : ∀ n ∈ x.1.weights Tryd.prog 9, n ≤ reachBytes) : ∃ a : ByteArray, cs = [.string a] ∧ a.size ≤ reachBytes := by
  obtain ⟨pb, e2, ey2, _⟩ := DataW.trod_string Tryd.underlying9 h
  exact ⟨pb, e2, hw pb.size (by simp [ey2, DataW.weights])⟩
set_option maxRecDepth 100000 in
theorem open_file (fuel : Nat) (cs : List Value) (x : DataW H × List MemPlace) (h : DataW.trod enc Tryd.prog W base sp hd fuel 38 cs = some x) (hw : ∀ n ∈ x.1.weights Tryd.prog 38, n ≤ reachBytes) : ∃ a : Fl, cs = fl3 a ∧ (a.path.size ≤ reachBytes ∧ a.data.size ≤ reachBytes) := by
  obtain ⟨xs, k, _, rfl, hcl, hxl, hf⟩ := DataW.trod_struct Tryd.underlying38 h
  rw [cells38] at hcl
  match xs, hxl, cs, hcl with
  | [y0, y1, y2], _, [v0, v1, v2], _ =>
    have g0 := hf 0 _ rfl
    have g1 := hf 1 _ rfl
    have g2 := hf 2 _ rfl
    simp [cells4, cells9] at g0 g1 g2
    obtain ⟨b, e0, z0⟩ := open_txt _ _ _ g0 (fun n hn => hw n (by
      simp only [List.map_cons, List.map_nil, DataW.weights, Tryd.underlying38, DataW.weightsEach, List.mem_append]
      exact .inl hn))
    obtain ⟨k1, e1, _⟩ := DataW.trod_bool Tryd.underlying4 g1
    obtain ⟨b2, e2, z2⟩ := open_txt _ _ _ g2 (fun n hn => hw n (by
      simp only [List.map_cons, List.map_nil, DataW.weights, Tryd.underlying38, DataW.weightsEach, List.mem_append]
      exact .inr (.inr (.inl hn))))
    simp at e0 e1 e2
    subst e0 e1 e2
    exact ⟨⟨b, k1, b2⟩, rfl, z0, z2⟩
theorem fs_of_rows {A : Option Addr} {l : List Fl} (h : ∀ j, j < l.length → ∃ g o, A = some ⟨g, o, none⟩ ∧ g < W.heap.size ∧ ∀ i u, (fl3 (l.getD j default))[i]? = some u → W.cell? ⟨g, o + j * 3 + i, none⟩ = some u) : Fs W A l := fun j hj => by
  obtain ⟨g, o, e, hg, hc⟩ := h j hj
  exact ⟨g, o, e, hg, hc 0 _ rfl, hc 1 _ rfl, hc 2 _ rfl⟩
theorem open_files {b0 : Nat} {v : Value} {d : DataW H} {p : List MemPlace} (hv : Value.okWide Tryd.prog W .any b0 22 v) (h : DataW.Trod enc Tryd.prog W base sp hd 22 v d p) (hw : ∀ n ∈ d.weights Tryd.prog 22, n ≤ reachBytes) :
    ∃ (l : List Fl) (A : Option Addr) (c : Nat), v = .slice A l.length c ∧ Fs W A l ∧ l.length ≤ reachBytes ∧ ∀ x ∈ l, x.path.size ≤ reachBytes ∧ x.data.size ≤ reachBytes := by
  obtain ⟨x0, y0, z0, rfl⟩ := okWide_slice Tryd.underlying22 hv
  obtain ⟨fuel, hf⟩ := h
  obtain ⟨A1, l1, c1', e3, q1', z1, o1, r1'⟩ := open_rows fl3 _ (fun _ => rfl) (by decide) Tryd.underlying22 cells38 bytes38 (by decide) open_file hf hw
  simp [Value.cells] at e3
  obtain ⟨rfl, rfl, rfl⟩ := e3
  exact ⟨l1, _, _, rfl, fs_of_rows r1', z1, o1⟩
end
end Go.Proofs.YtnhekngmgjnodaaDoor
