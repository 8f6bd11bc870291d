/- What is handed in: a state, as it is read. -/
import Derived.Test.YtknddbmnciodaaaGreatRd
import Derived.WalkKit
import Derived.ProofKit
import Derived.OpenShut
import Derived.Lib.SmallJoins
import Derived.Carry
import Derived.Deep.Slices
import Derived.Deep.Grids
import Derived.SizedLaws
namespace Go.Proofs.YtknddbmnciodaaaGreat
open Go.ChangeShapes Go.WideShapes Go.ChangeAt Go.RowKit Go.Joins Go.WideMaps Go.WideElems
open Ix
set_option linter.unusedVariables false
theorem own : ownKnob Tryz.prog.godebug = none := by kernel_rfl
theorem laidOut : laidOutB Tryz.prog = true := by kernel_rfl
theorem cells2 : Tryz.prog.cellsOf 2 = 1 := by kernel_rfl
theorem cells3 : Tryz.prog.cellsOf 3 = 1 := by kernel_rfl
theorem cells9 : Tryz.prog.cellsOf 9 = 1 := by kernel_rfl
theorem cells23 : Tryz.prog.cellsOf 32 = 2 := by kernel_rfl
theorem cells24 : Tryz.prog.cellsOf 33 = 1 := by kernel_rfl
theorem cells25 : Tryz.prog.cellsOf 29 = 1 := by kernel_rfl
theorem cells26 : Tryz.prog.cellsOf 30 = 1 := by kernel_rfl
theorem cells28 : Tryz.prog.cellsOf 35 = 6 := by kernel_rfl
theorem cells37 : Tryz.prog.cellsOf 24 = 3 := by kernel_rfl
theorem cells68 : Tryz.prog.cellsOf 41 = 3 := by kernel_rfl
theorem bytes9 : Tryz.prog.bytesOf 9 = 16 := by kernel_rfl
theorem bytes37 : Tryz.prog.bytesOf 24 = 32 := by kernel_rfl
theorem bytes68 : Tryz.prog.bytesOf 41 = 32 := by kernel_rfl
theorem plain_of {W : World} {a : Addr} {v : Value} (h : W.cell? (a.add 0) = some v) : ∃ b o, a = ⟨b, o, none⟩ ∧ b < W.heap.size := by
  obtain ⟨b, o, s⟩ := a
  have hs : s = none := by simpa [Addr.add] using World.cell?_spot h
  subst hs
  exact ⟨b, o, rfl, World.block_lt_of_cell? (h := h)⟩
section
variable {H : Type} {enc : TypeId × Value → H} {W : World} {base : Nat} {sp : Nat → Bool} {hd : Bool}
theorem weightsAll_mem {t : TypeId} : ∀ (l : List (DataW H)) (y : DataW H), y ∈ l → ∀ k ∈ y.weights Tryz.prog t, k ∈ DataW.weightsAll Tryz.prog t l := by
  intro l
  induction l with
  | nil => intro y hy; cases hy
  | cons z r ih =>
    intro y hy k hk
    simp only [DataW.weightsAll, List.mem_append]
    rcases List.mem_cons.1 hy with rfl | hy
    · exact .inl hk
    · exact .inr (ih y hy k hk)
theorem open_rows {α : Type} [Inhabited α] {t e : TypeId} {m B : Nat} (cells : α → List Value) (ok : α → Prop) (hm : ∀ x, (cells x).length = m) (h0m : 0 < m) (hu : Tryz.prog.underlying t = some (.slice e)) (hc : Tryz.prog.cellsOf e = m) (hB : Tryz.prog.bytesOf e = B) (h0B : 0 < B)
    (elem : ∀ (fuel : Nat) (cs : List Value) (x : DataW H × List MemPlace), DataW.trod enc Tryz.prog W base sp hd fuel e cs = some x → (∀ n ∈ x.1.weights Tryz.prog e, n ≤ reachBytes) → ∃ a : α, cs = cells a ∧ ok a)
    {fuel : Nat} {cs : List Value} {x : DataW H × List MemPlace} (h : DataW.trod enc Tryz.prog W base sp hd fuel t cs = some x) (hw : ∀ n ∈ x.1.weights Tryz.prog t, n ≤ reachBytes) :
    ∃ (A : Option Addr) (l : List α) (cap : Nat), cs = [.slice A l.length cap] ∧ l.length ≤ cap ∧ l.length ≤ reachBytes ∧ (∀ a ∈ l, ok a) ∧ ∀ j, j < l.length → ∃ g o, A = some ⟨g, o, none⟩ ∧ g < W.heap.size ∧ ∀ i u, (cells (l.getD j default))[i]? = some u → W.cell? ⟨g, o + j * m + i, none⟩ = some u := by
  rcases Go.Deep.open_slice hu h with ⟨hcs, _⟩ | ⟨a, len, cap, k, n, D, Pl, hcs, _, hl, hm', hmm, hx, he⟩
  · exact ⟨none, [], 0, hcs, Nat.le_refl _, Nat.zero_le _, fun a ha => (by cases ha), fun j hj => absurd hj (by simp)⟩
  · have hlm : len ≤ k := by rw [hmm]; split <;> omega
    have hd' : x.1 = .slice ((List.range len).map D) ((List.range (k - len)).map fun j => D (len + j)) := by rw [hx]
    have hwD : ∀ i, i < len → ∀ k ∈ (D i).weights Tryz.prog e, k ≤ reachBytes := fun i hi k hk => hw k (by
      rw [hd']
      simp only [DataW.weights, hu, List.mem_cons, List.mem_append]
      exact .inr (.inl (weightsAll_mem _ (D i) (List.mem_map.2 ⟨i, List.mem_range.2 hi, rfl⟩) k hk)))
    have hlen0 : len ≤ reachBytes := by
      have := hw ((len + (k - len)) * B) (by
        rw [hd']
        simp [DataW.weights, hu, hB])
      refine Nat.le_trans ?_ this
      exact Nat.le_trans (Nat.le_add_right len (k - len)) (Nat.le_mul_of_pos_right _ h0B)
    have each : ∀ i, i < len → ∃ x : α, ok x ∧ ∀ j u, (cells x)[j]? = some u → W.cell? ((a.add (i * m)).add j) = some u := fun i hi => by
      obtain ⟨cs', h1, h2⟩ := he i (by omega)
      rw [hc] at h1
      obtain ⟨_, hcl, hcell⟩ := World.cells?_some h1
      obtain ⟨x, rfl, hok⟩ := elem _ _ _ h2 (hwD i hi)
      refine ⟨x, hok, fun j u hj => ?_⟩
      have hj' : j < m := by have := (List.getElem?_eq_some_iff.1 hj).1; rw [hm] at this; exact this
      rw [hcell j hj', hj]
    by_cases h0 : len = 0
    · subst h0
      exact ⟨some a, [], cap, hcs, Nat.zero_le _, Nat.zero_le _, fun a ha => (by cases ha), fun j hj => absurd hj (by simp)⟩
    · obtain ⟨b, o, rfl, hb⟩ : ∃ b o, a = ⟨b, o, none⟩ ∧ b < W.heap.size := by
        obtain ⟨x, _, hcx⟩ := each 0 (by omega)
        obtain ⟨u, hu0⟩ : ∃ u, (cells x)[0]? = some u := ⟨_, List.getElem?_eq_getElem (by rw [hm]; exact h0m)⟩
        have := hcx 0 _ hu0
        rw [Go.Deep.add_add] at this
        exact plain_of (by simpa using this)
      obtain ⟨f, hff⟩ := Go.Deep.choose_lt each
      have hlen : ((List.range len).map f).length = len := by simp
      refine ⟨_, (List.range len).map f, cap, by rw [hlen]; exact hcs, by rw [hlen]; exact hl, by rw [hlen]; exact hlen0, fun x hx => ?_, fun j hj => ⟨b, o, rfl, hb, fun i u hi => ?_⟩⟩
      · obtain ⟨j, hj, rfl⟩ := List.mem_map.1 hx
        exact (hff j (List.mem_range.1 hj)).1
      · rw [hlen] at hj
        have hget : ((List.range len).map f).getD j default = f j := by
          rw [List.getD_eq_getElem?_getD, List.getElem?_map, List.getElem?_range hj]; rfl
        rw [hget] at hi
        have := (hff j hj).2 i u hi
        rw [add_plain, add_plain] at this
        exact this
/-- bounds of an i64 -/
def I6 (z : Int) : Prop := -9223372036854775808 ≤ z ∧ z ≤ 9223372036854775807
theorem open_txt (fuel : Nat) (cs : List Value) (x : DataW H × List MemPlace) (h : DataW.trod enc Tryz.prog W base sp hd fuel 9 cs = some x) (hw : ∀ n ∈ x.1.weights Tryz.prog 9, n ≤ reachBytes) : ∃ a : ByteArray, cs = [.string a] ∧ a.size ≤ reachBytes := by
  obtain ⟨pb, e2, ey2, _⟩ := DataW.trod_string Tryz.underlying9 h
  exact ⟨pb, e2, hw pb.size (by simp [ey2, DataW.weights])⟩
set_option maxRecDepth 100000 in
theorem open_place (fuel : Nat) (cs : List Value) (x : DataW H × List MemPlace) (h : DataW.trod enc Tryz.prog W base sp hd fuel 24 cs = some x) (hw : ∀ n ∈ x.1.weights Tryz.prog 24, n ≤ reachBytes) : ∃ a : Pl, cs = pl3 a ∧ (a.pack.size ≤ reachBytes ∧ I6 a.at_ ∧ I6 a.len) := by
  obtain ⟨xs, k, _, rfl, hcl, hxl, hf⟩ := DataW.trod_struct Tryz.underlying24 h
  rw [cells37] at hcl
  match xs, hxl, cs, hcl with
  | [y0, y1, y2], _, [v0, v1, v2], _ =>
    have g0 := hf 0 _ rfl
    have g1 := hf 1 _ rfl
    have g2 := hf 2 _ rfl
    simp [cells3, cells9] at g0 g1 g2
    obtain ⟨b, e0, z0⟩ := open_txt _ _ _ g0 (fun n hn => hw n (by
      simp only [List.map_cons, List.map_nil, DataW.weights, Tryz.underlying24, DataW.weightsEach, List.mem_append]
      exact .inl hn))
    obtain ⟨k1, e1, _, w1⟩ := DataW.trod_int Tryz.underlying3 g1
    obtain ⟨k2, e2, _, w2⟩ := DataW.trod_int Tryz.underlying3 g2
    simp at e0 e1 e2
    subst e0 e1 e2
    exact ⟨⟨b, k1, k2⟩, rfl, z0, bounds_i64 w1, bounds_i64 w2⟩
set_option maxRecDepth 100000 in
theorem open_snap (fuel : Nat) (cs : List Value) (x : DataW H × List MemPlace) (h : DataW.trod enc Tryz.prog W base sp hd fuel 41 cs = some x) (hw : ∀ n ∈ x.1.weights Tryz.prog 41, n ≤ reachBytes) : ∃ a : Snp, cs = sn3 a ∧ (a.root.size ≤ reachBytes ∧ I6 a.id ∧ I6 a.time) := by
  obtain ⟨xs, k, _, rfl, hcl, hxl, hf⟩ := DataW.trod_struct Tryz.underlying41 h
  rw [cells68] at hcl
  match xs, hxl, cs, hcl with
  | [y0, y1, y2], _, [v0, v1, v2], _ =>
    have g0 := hf 0 _ rfl
    have g1 := hf 1 _ rfl
    have g2 := hf 2 _ rfl
    simp [cells2, cells3, cells9] at g0 g1 g2
    obtain ⟨b, e2, z2⟩ := open_txt _ _ _ g2 (fun n hn => hw n (by
      simp only [List.map_cons, List.map_nil, DataW.weights, Tryz.underlying41, DataW.weightsEach, List.mem_append]
      exact .inr (.inr (.inl hn))))
    obtain ⟨k0, e0, _, w0⟩ := DataW.trod_int Tryz.underlying3 g0
    obtain ⟨k1, e1, _, w1⟩ := DataW.trod_int Tryz.underlying2 g1
    simp at e0 e1 e2
    subst e0 e1 e2
    exact ⟨⟨k0, k1, b⟩, rfl, z2, bounds_i64 w0, bounds_i64 w1⟩
set_option maxRecDepth 100000 in
theorem open_code (fuel : Nat) (cs : List Value) (x : DataW H × List MemPlace) (h : DataW.trod enc Tryz.prog W base sp hd fuel 32 cs = some x) : ∃ K N : Int, cs = [.int .i64 K, .int .i64 N] ∧ I6 K ∧ I6 N := by
  obtain ⟨xs, k, _, rfl, hcl, hxl, hf⟩ := DataW.trod_struct Tryz.underlying32 h
  rw [cells23] at hcl
  match xs, hxl, cs, hcl with
  | [y0, y1], _, [v0, v1], _ =>
    have g0 := hf 0 _ rfl
    have g1 := hf 1 _ rfl
    simp [cells3] at g0 g1
    obtain ⟨k0, e0, _, w0⟩ := DataW.trod_int Tryz.underlying3 g0
    obtain ⟨k1, e1, _, w1⟩ := DataW.trod_int Tryz.underlying3 g1
    simp at e0 e1
    subst e0 e1
    exact ⟨k0, k1, rfl, bounds_i64 w0, bounds_i64 w1⟩
theorem sn_of_rows {A : Option Addr} {l : List Snp} (h : ∀ j, j < l.length → ∃ g o, A = some ⟨g, o, none⟩ ∧ g < W.heap.size ∧ ∀ i u, (sn3 (l.getD j default))[i]? = some u → W.cell? ⟨g, o + j * 3 + i, none⟩ = some u) : Sn W A l := fun j hj => by
  obtain ⟨g, o, e, hg, hc⟩ := h j hj
  exact ⟨g, o, e, hg, hc 0 _ rfl, hc 1 _ rfl, hc 2 _ rfl⟩
theorem ps_of_rows {A : Option Addr} {l : List Pl} (h : ∀ j, j < l.length → ∃ g o, A = some ⟨g, o, none⟩ ∧ g < W.heap.size ∧ ∀ i u, (pl3 (l.getD j default))[i]? = some u → W.cell? ⟨g, o + j * 3 + i, none⟩ = some u) : Ps W A l := fun j hj => by
  obtain ⟨g, o, e, hg, hc⟩ := h j hj
  exact ⟨g, o, e, hg, hc 0 _ rfl, hc 1 _ rfl, hc 2 _ rfl⟩
theorem tx_of_rows {A : Option Addr} {l : List ByteArray} (h : ∀ j, j < l.length → ∃ g o, A = some ⟨g, o, none⟩ ∧ g < W.heap.size ∧ ∀ i u, ([Value.string (l.getD j ⟨#[]⟩)])[i]? = some u → W.cell? ⟨g, o + j * 1 + i, none⟩ = some u) : Tx W A l := fun j hj => by
  obtain ⟨g, o, e, hg, hc⟩ := h j hj
  refine ⟨g, o, e, hg, ?_⟩
  have := hc 0 _ rfl
  rwa [Nat.mul_one] at this
/-- what is known of a state that was handed in -/
structure Handed (W : World) (s : St) (a0 a1 a2 : Option Addr) (c0 c1 c2 : Nat) : Prop where
  k : I6 s.k
  n : I6 s.n
  nx : I6 s.nx
  sn : Sn W a0 s.sn
  tx : Tx W a1 s.C
  ps : Ps W a2 s.P
  l0 : s.sn.length ≤ reachBytes
  l1 : s.C.length ≤ reachBytes
  l2 : s.P.length ≤ reachBytes
  g0 : s.sn.length ≤ c0
  g1 : s.C.length ≤ c1
  g2 : s.P.length ≤ c2
  sns : ∀ a ∈ s.sn, a.root.size ≤ reachBytes ∧ I6 a.id ∧ I6 a.time
  txs : ∀ a ∈ s.C, a.size ≤ reachBytes
  pls : ∀ a ∈ s.P, a.pack.size ≤ reachBytes ∧ I6 a.at_ ∧ I6 a.len
set_option maxRecDepth 100000 in
theorem open_state {b0 : Nat} {v : Value} {d : DataW H} {p : List MemPlace} (hv : Value.okWide Tryz.prog W .any b0 35 v) (h : DataW.Trod enc Tryz.prog W base sp hd 35 v d p) (hw : ∀ n ∈ d.weights Tryz.prog 35, n ≤ reachBytes) :
    ∃ (s : St) (a0 a1 a2 : Option Addr) (c0 c1 c2 : Nat), v = .agg #[.int .i64 s.k, .int .i64 s.n, .int .i64 s.nx, .slice a0 s.sn.length c0, .slice a1 s.C.length c1, .slice a2 s.P.length c2] ∧ Handed W s a0 a1 a2 c0 c1 c2 := by
  obtain ⟨cs, rfl, hsz⟩ := okWide_struct Tryz.underlying35 hv
  obtain ⟨fuel, hf0⟩ := h
  obtain ⟨xs, k, _, hx, hcl, hxl, hf⟩ := DataW.trod_struct Tryz.underlying35 hf0
  have hd0 : d = .agg (xs.map Prod.fst) := by
    have := congrArg Prod.fst hx
    simpa using this
  subst hd0
  rw [cells28] at hcl hsz
  obtain ⟨v0, v1, v2, v3, v4, v5, rfl⟩ : ∃ v0 v1 v2 v3 v4 v5, cs = #[v0, v1, v2, v3, v4, v5] := by
    match cs, hsz with
    | ⟨[v0, v1, v2, v3, v4, v5]⟩, _ => exact ⟨_, _, _, _, _, _, rfl⟩
  match xs, hxl with
  | [y0, y1, y2, y3, y4], _ =>
    have g0 := hf 0 _ rfl
    have g1 := hf 1 _ rfl
    have g2 := hf 2 _ rfl
    have g3 := hf 3 _ rfl
    have g4 := hf 4 _ rfl
    simp [Value.cells, cells3, cells23, cells24, cells25, cells26] at g0 g1 g2 g3 g4
    have hsub : ∀ n, (n ∈ y2.1.weights Tryz.prog 33 ∨ n ∈ y3.1.weights Tryz.prog 29 ∨ n ∈ y4.1.weights Tryz.prog 30) → n ≤ reachBytes := fun n hn => hw n (by
        simp only [List.map_cons, List.map_nil, DataW.weights, Tryz.underlying35, DataW.weightsEach, List.mem_append]
        rcases hn with hn | hn | hn
        · exact .inr (.inr (.inl hn))
        · exact .inr (.inr (.inr (.inl hn)))
        · exact .inr (.inr (.inr (.inr (.inl hn)))))
    obtain ⟨K, N, e0, hK, hN⟩ := open_code _ _ _ g0
    obtain ⟨X, e1, _, w1⟩ := DataW.trod_int Tryz.underlying3 g1
    obtain ⟨A0, l0, c0, e2, q0, z0, o0, r0⟩ := open_rows sn3 _ (fun _ => rfl) (by decide) Tryz.underlying33 cells68 bytes68 (by decide) open_snap g2 (fun n hn => hsub n (.inl hn))
    haveI : Inhabited ByteArray := ⟨⟨#[]⟩⟩
    obtain ⟨A1, l1, c1, e3, q1, z1, o1, r1⟩ := @open_rows _ _ _ _ _ _ _ ⟨⟨#[]⟩⟩ _ _ _ _ (fun a : ByteArray => [Value.string a]) _ (fun _ => rfl) (by decide) Tryz.underlying29 cells9 bytes9 (by decide) open_txt _ _ _ g3 (fun n hn => hsub n (.inr (.inl hn)))
    obtain ⟨A2, l2, c2, e4, q2, z2, o2, r2⟩ := open_rows pl3 _ (fun _ => rfl) (by decide) Tryz.underlying30 cells37 bytes37 (by decide) open_place g4 (fun n hn => hsub n (.inr (.inr hn)))
    simp at e0 e1 e2 e3 e4
    obtain ⟨rfl, rfl⟩ := e0
    subst e1 e2 e3 e4
    exact ⟨⟨K, N, X, l0, l1, l2⟩, A0, A1, A2, c0, c1, c2, rfl, hK, hN, bounds_i64 w1, sn_of_rows r0, tx_of_rows r1, ps_of_rows r2, z0, z1, z2, q0, q1, q2, o0, o1, o2⟩
end
end Go.Proofs.YtknddbmnciodaaaGreat

