/- Packs as the document's program holds them. No program in it. -/
import Derived.Test.YtjhjolnflkekoaaDoorRone
namespace Go.Proofs.YtjhjolnflkekoaaDoor
open Go.RowKit Go.Maps
open Pk
set_option linter.unusedVariables false
/-- the document's packs, one behind the other -/
def rkC (x : List ByteArray × Value × Value) : List Value := [.string (pb x.1), .string (dg (pb x.1)), x.2.1, x.2.2]
structure Rks (w : World) (lo : Nat) (v : Value) (M : List (List ByteArray × Value × Value)) : Prop where
  row : w.ownsRow lo 34 4 v M.length (M.flatMap rkC)
  ra : ∀ x ∈ M, w.ownsRow lo 9 1 x.2.1 x.1.length ((x.1.map dg).map Value.string)
  rb : ∀ x ∈ M, w.ownsRow lo 42 3 x.2.2 x.1.length ((plT x.1).flatMap pl3)
theorem Rks.nil (w : World) (lo : Nat) : Rks w lo (.slice none 0 0) [] := ⟨World.ownsRow_nil _ _ _ _, fun x hx => absurd hx (by simp), fun x hx => absurd hx (by simp)⟩
theorem Rks.below {w w' : World} {B lo : Nat} {v : Value} {M : List (List ByteArray × Value × Value)} (h : Rks w lo v M) (hb : Below B w w') (hB : w.heap.size ≤ B) : Rks w' lo v M :=
  ⟨own_below h.row hb hB, fun x hx => own_below (h.ra x hx) hb hB, fun x hx => own_below (h.rb x hx) hb hB⟩
theorem Rks.mono {w : World} {lo lo' : Nat} {v : Value} {M : List (List ByteArray × Value × Value)} (h : Rks w lo v M) (hl : lo' ≤ lo) : Rks w lo' v M :=
  ⟨own_mono h.row hl, fun x hx => own_mono (h.ra x hx) hl, fun x hx => own_mono (h.rb x hx) hl⟩
theorem Rks.slice {w : World} {lo : Nat} {v : Value} {M : List (List ByteArray × Value × Value)} (h : Rks w lo v M) : ∃ A cap, v = .slice A M.length cap := own_slice h.row
/-- the packs stand while the open row grows -/
theorem Rks.grown {w w' : World} {lo lo2 : Nat} {v v2 : Value} {n : Nat} {xs : List Value} {M : List (List ByteArray × Value × Value)} (h : Rks w lo v M) (hr : w.ownsRow lo2 9 1 v2 n xs) (hg : w.grownBy w' v2.ownBlock) (ha : ∀ x ∈ M, x.2.1.ownBlock = none ∨ x.2.1.ownBlock ≠ v2.ownBlock) : Rks w' lo v M :=
  ⟨h.row.kept hg (own_own h.row hr (by decide)), fun x hx => (h.ra x hx).kept hg (ha x hx), fun x hx => (h.rb x hx).kept hg (own_own (h.rb x hx) hr (by decide))⟩
/-- a pack is put behind -/
theorem Rks.push {w w' : World} {lo : Nat} {v v' : Value} {M : List (List ByteArray × Value × Value)} {p : List ByteArray} {vA vB : Value} (h : Rks w lo v M)
    (hA : w.ownsRow lo 9 1 vA p.length ((p.map dg).map Value.string)) (hB : w.ownsRow lo 42 3 vB p.length ((plT p).flatMap pl3))
    (hrow : w'.ownsRow lo 34 4 v' (M.length + 1) (M.flatMap rkC ++ rkC (p, vA, vB))) (hg : w.grownBy w' v.ownBlock) : Rks w' lo v' (M ++ [(p, vA, vB)]) := by
  refine ⟨by rw [List.length_append, List.flatMap_append]; simpa using hrow, fun x hx => ?_, fun x hx => ?_⟩
  · rcases List.mem_append.1 hx with hx | hx
    · exact (h.ra x hx).kept hg (own_own (h.ra x hx) h.row (by decide))
    · have : x = (p, vA, vB) := by simpa using hx
      subst this; exact hA.kept hg (own_own hA h.row (by decide))
  · rcases List.mem_append.1 hx with hx | hx
    · exact (h.rb x hx).kept hg (own_own (h.rb x hx) h.row (by decide))
    · have : x = (p, vA, vB) := by simpa using hx
      subst this; exact hB.kept hg (own_own hB h.row (by decide))
/-- what is read of them -/
theorem Rks.cells {w : World} {lo : Nat} {A : Option Addr} {n cap : Nat} {M : List (List ByteArray × Value × Value)} (h : Rks w lo (.slice A n cap) M) (k : Nat) (x : List ByteArray × Value × Value) (hx : M[k]? = some x) :
    ∃ g, A = some ⟨g, 0, none⟩ ∧ lo ≤ g ∧ g < w.heap.size ∧ w.cell? ⟨g, k * 4, none⟩ = some (.string (pb x.1)) ∧ w.cell? ⟨g, k * 4 + 1, none⟩ = some (.string (dg (pb x.1))) ∧ w.cell? ⟨g, k * 4 + 2, none⟩ = some x.2.1 ∧ w.cell? ⟨g, k * 4 + 3, none⟩ = some x.2.2 := by
  have hk := (List.getElem?_eq_some_iff.1 hx).1
  have f := flat_get rkC 4 (fun _ => rfl) M k x hx
  have hr := h.row
  rcases hr.2 with ⟨h1, h2⟩ | ⟨g, cap', cur, hv, hb, hh, _⟩
  · omega
  · have e : A = some ⟨g, 0, none⟩ := by cases hv; rfl
    have c : ∀ i u, (rkC x)[i]? = some u → w.cell? ⟨g, k * 4 + i, none⟩ = some u := fun i u hu => by
      have := hr.cells (g := g) (by rw [e]; rfl) (k * 4 + i) u (f i u hu)
      rwa [add_zero'] at this
    exact ⟨g, e, hb, (Array.getElem?_eq_some_iff.1 hh).1, c 0 _ rfl, c 1 _ rfl, c 2 _ rfl, c 3 _ rfl⟩
theorem row_text {w : World} {lo n cap : Nat} {A : Option Addr} {p : List ByteArray} (h : w.ownsRow lo 9 1 (.slice A n cap) p.length ((p.map dg).map Value.string)) (k : Nat) (hk : k < p.length) :
    ∃ g, A = some ⟨g, 0, none⟩ ∧ lo ≤ g ∧ g < w.heap.size ∧ w.cell? ⟨g, k, none⟩ = some (.string (dg (p.getD k ⟨#[]⟩))) := by
  rcases h.2 with ⟨h1, h2⟩ | ⟨g, cap', cur, hv, hb, hh, _⟩
  · omega
  · have e : A = some ⟨g, 0, none⟩ := by cases hv; rfl
    have := h.cells (g := g) (by rw [e]; rfl) k (.string (dg (p.getD k ⟨#[]⟩))) (by rw [List.getElem?_map, List.getElem?_map, List.getD_eq_getElem?_getD, List.getElem?_eq_getElem hk]; rfl)
    rw [add_zero'] at this
    exact ⟨g, e, hb, (Array.getElem?_eq_some_iff.1 hh).1, this⟩
theorem row_place {w : World} {lo n cap : Nat} {A : Option Addr} {p : List ByteArray} (h : w.ownsRow lo 42 3 (.slice A n cap) p.length ((plT p).flatMap pl3)) (k : Nat) (hk : k < p.length) :
    ∃ g, A = some ⟨g, 0, none⟩ ∧ lo ≤ g ∧ g < w.heap.size ∧ w.cell? ⟨g, k * 3, none⟩ = some (.string (dg (pb p))) ∧ w.cell? ⟨g, k * 3 + 1, none⟩ = some (.int .i64 (pat p k : Int)) ∧ w.cell? ⟨g, k * 3 + 2, none⟩ = some (.int .i64 ((p.getD k ⟨#[]⟩).size : Int)) := by
  have f := flat_get pl3 3 (fun _ => rfl) (plT p) k _ (plT_get p k hk)
  rcases h.2 with ⟨h1, h2⟩ | ⟨g, cap', cur, hv, hb, hh, _⟩
  · omega
  · have e : A = some ⟨g, 0, none⟩ := by cases hv; rfl
    have c : ∀ i u, (pl3 (dg (pb p), pat p k, (p.getD k ⟨#[]⟩).size))[i]? = some u → w.cell? ⟨g, k * 3 + i, none⟩ = some u := fun i u hu => by
      have := h.cells (g := g) (by rw [e]; rfl) (k * 3 + i) u (f i u hu)
      rwa [add_zero'] at this
    exact ⟨g, e, hb, (Array.getElem?_eq_some_iff.1 hh).1, c 0 _ rfl, c 1 _ rfl, c 2 _ rfl⟩
end Go.Proofs.YtjhjolnflkekoaaDoor
/- What stands while packs are copied and the copied ones spoilt. No walk in it. -/
namespace Go.Proofs.YtjhjolnflkekoaaDoor
open Go.RowKit Go.Maps
open Pk
set_option linter.unusedVariables false
/-- append to an empty row that has no room -/
theorem app_nil {P : Program} {w : World} {g : Nat} {t ty e : TypeId} {i : TypeInfo} {z : Value} {size bytes base : Nat} (ht : P.underlying t = some (.slice e)) (hi : P.info? e = some i) (hz : i.zero = some z)
    (hsize : i.size = size) (hby : i.bytes = bytes) (hzs : z.cells.size = size) (hg : Has w g #[] e) (hb : base ≤ g) (a : Addr) (m c : Nat) (news : List Value) (hl : news.length = m * size)
    (hnews : ∀ j u, news[j]? = some u → w.cell? (a.add j) = some u) (h63 : m ≤ maxLen) (hbytes : m * bytes ≤ 140737488355328) :
    ∃ v' w', (Builtin.append_ #[t, t] ty #[.slice (some ⟨g, 0, none⟩) 0 0, .slice (some a) m c]).run P w = .ok v' w' ∧ w'.ownsRow base e size v' m news ∧ Below w.heap.size w w' := by
  have hbw : base ≤ w.heap.size := Nat.le_trans hb (Nat.le_of_lt hg.lt)
  by_cases h0 : m = 0
  · subst h0
    obtain rfl : news = [] := List.eq_nil_of_length_eq_zero (by rw [hl]; simp)
    refine ⟨.slice (some ⟨g, 0, none⟩) 0 0, w, ?_, ⟨by simp, .inr ⟨g, 0, #[], rfl, hb, hg, Nat.le_refl _, Nat.zero_le _, by simp, by simp⟩⟩, Below.refl _ _⟩
    have hf := run_firstCells_some (P := P) w i.size 0 a 0 c [] (by simp) (fun j u hj => by simp at hj)
    simp [Builtin.append_, run_underlying ht, sizeOf, typeInfo, hi, Builtin.lenOf, hf, storeCells]
  · subst hby
    have hsmall : m ≤ 9223372036854775807 := by simp only [maxLen] at h63; omega
    have hr := run_append_grow (P := P) w t ty e i z ht hi hz ⟨g, 0, none⟩ 0 0 [] (by simp) (fun j u hj => by simp at hj) a m c news (by rw [hsize]; exact hl) hnews (by omega) (by omega) (growslice_fits (by omega) (by rw [Nat.zero_add]; exact hbytes))
    refine ⟨_, _, hr, ?_, (Below.refl _ w).drew.alloc (Nat.le_refl _) _⟩
    have hge := grownCap_ge w (0 + m) 0 e
    have hcm := grownCap_le_maxLen w (0 + m) 0 e (by rw [Nat.zero_add]; exact h63)
    rw [Nat.zero_add] at hge hcm ⊢
    refine ⟨hl, .inr ⟨w.heap.size, _, _, rfl, hbw, heap_alloc_new w.drew _, hge, hcm, ?_, ?_⟩⟩
    · simp only [Array.size_append, List.size_toArray, size_zeroCells, hl, hzs, List.length_nil, Nat.zero_add]
      rw [← Nat.add_mul]; congr 1; omega
    · simp only [Array.toList_append, List.nil_append]
      rw [← hl]
      exact List.take_left
theorem pk_cells {w : World} {lo : Nat} {A : Option Addr} {n cap : Nat} {L : List (List ByteArray × Nat × Nat)} (hr : w.ownsRow lo 39 4 (.slice A n cap) L.length (L.flatMap pkC)) (k : Nat) (x : List ByteArray × Nat × Nat) (hx : L[k]? = some x) :
    ∃ g, A = some ⟨g, 0, none⟩ ∧ lo ≤ g ∧ g < w.heap.size ∧ w.cell? ⟨g, k * 4, none⟩ = some (.string (pb x.1)) ∧ w.cell? ⟨g, k * 4 + 1, none⟩ = some (.string (dg (pb x.1))) ∧ w.cell? ⟨g, k * 4 + 2, none⟩ = some (.slice (some ⟨x.2.1, 0, none⟩) x.1.length x.1.length) ∧ w.cell? ⟨g, k * 4 + 3, none⟩ = some (.slice (some ⟨x.2.2, 0, none⟩) x.1.length x.1.length) := by
  have hk := (List.getElem?_eq_some_iff.1 hx).1
  have f := flat_get pkC 4 (fun _ => rfl) L k x hx
  rcases hr.2 with ⟨h1, h2⟩ | ⟨g, cap', cur, hv, hb, hh, _⟩
  · omega
  · have e : A = some ⟨g, 0, none⟩ := by cases hv; rfl
    have c : ∀ i u, (pkC x)[i]? = some u → w.cell? ⟨g, k * 4 + i, none⟩ = some u := fun i u hu => by
      have := hr.cells (g := g) (by rw [e]; rfl) (k * 4 + i) u (f i u hu)
      rwa [add_zero'] at this
    exact ⟨g, e, hb, (Array.getElem?_eq_some_iff.1 hh).1, c 0 _ rfl, c 1 _ rfl, c 2 _ rfl, c 3 _ rfl⟩
/-- the first i are copied and spoilt, the others stand -/
structure BI (w : World) (lo top : Nat) (A : Option Addr) (n cap : Nat) (L : List (List ByteArray × Nat × Nat)) (i : Nat) (W : World) (v : Value) (M : List (List ByteArray × Value × Value)) : Prop where
  row : W.ownsRow lo 39 4 (.slice A n cap) L.length (L.flatMap pkC)
  rest : ∀ j x, i ≤ j → L[j]? = some x → PkAt W lo x.1 x.2.1 x.2.2
  pks : Rks W w.heap.size v M
  come : M.map (·.1) = (L.take i).map (·.1)
  below : Below lo w W
  size : w.heap.size ≤ W.heap.size
  lohs : lo ≤ w.heap.size
  kept : ∀ k, top ≤ k → k < w.heap.size → W.heap[k]? = w.heap[k]?
section
variable {w : World} {lo top : Nat} {A : Option Addr} {n cap : Nat} {L : List (List ByteArray × Nat × Nat)} {i : Nat} {W W' : World} {v : Value} {M : List (List ByteArray × Value × Value)}
theorem BI.start (h : Pks w lo (.slice A n cap) L) (hlo : lo ≤ w.heap.size) : BI w lo top A n cap L 0 w (.slice none 0 0) [] :=
  ⟨h.row, fun j x _ hx => h.each x (List.mem_of_getElem? hx), Rks.nil _ _, by simp, Below.refl _ _, Nat.le_refl _, hlo, fun _ _ _ => rfl⟩
theorem BI.stay (h : BI w lo top A n cap L i W v M) (hb : Below W.heap.size W W') : BI w lo top A n cap L i W' v M :=
  ⟨own_below h.row hb (Nat.le_refl _), fun j x hj hx => (h.rest j x hj hx).below hb (Nat.le_refl _), h.pks.below hb (Nat.le_refl _), h.come, h.below.trans (hb.mono (Nat.le_trans h.lohs h.size)), Nat.le_trans h.size hb.size, h.lohs, fun k h1 h2 => (hb.block k (Nat.lt_of_lt_of_le h2 h.size)).trans (h.kept k h1 h2)⟩
/-- the row of what is made grows, and its old form still stands -/
theorem BI.grow (h : BI w lo top A n cap L i W v M) (hg : W.grownBy W' v.ownBlock) (hk : W'.ownsRow w.heap.size 34 4 v M.length (M.flatMap rkC)) : BI w lo top A n cap L i W' v M :=
  ⟨h.row.kept hg (own_own h.row h.pks.row (by decide)), fun j x hj hx => by
    have hp := h.rest j x hj hx
    exact ⟨hp.la, hp.lb, hp.ha.grown hg (own_has h.pks.row hp.ha (by decide)), hp.hb.grown hg (own_has h.pks.row hp.hb (by decide))⟩,
    ⟨hk, fun x hx => (h.pks.ra x hx).kept hg (own_own (h.pks.ra x hx) h.pks.row (by decide)), fun x hx => (h.pks.rb x hx).kept hg (own_own (h.pks.rb x hx) h.pks.row (by decide))⟩,
    h.come, h.below.grown hg (Nat.le_trans h.lohs h.size) (fun j hj => Nat.le_trans h.lohs (h.pks.row.lt j hj).1), Nat.le_trans h.size hg.size, h.lohs, fun k h1 h2 => (hg.block k (Nat.lt_of_lt_of_le h2 h.size) (fun e => by have := (h.pks.row.lt k e.symm).1; omega)).trans (h.kept k h1 h2)⟩
theorem BI.len (h : BI w lo top A n cap L i W v M) (hi : i ≤ L.length) : M.length = i := by
  have := congrArg List.length h.come
  simp at this; omega
/-- one more -/
theorem BI.next {p : List ByteArray} {a b : Nat} {vA vB v' : Value} (h : BI w lo top A n cap L i W v M) (hx : L[i]? = some (p, a, b)) (hrow : W.ownsRow w.heap.size 34 4 v' (M.length + 1) (M.flatMap rkC ++ rkC (p, vA, vB)))
    (hA : W.ownsRow w.heap.size 9 1 vA p.length ((p.map dg).map Value.string)) (hB : W.ownsRow w.heap.size 42 3 vB p.length ((plT p).flatMap pl3)) : BI w lo top A n cap L (i + 1) W v' (M ++ [(p, vA, vB)]) := by
  refine ⟨h.row, fun j x hj hx => h.rest j x (by omega) hx, ⟨by rw [List.length_append, List.flatMap_append]; simpa using hrow, fun x hm => ?_, fun x hm => ?_⟩, ?_, h.below, h.size, h.lohs, h.kept⟩
  · rcases List.mem_append.1 hm with hm | hm
    · exact h.pks.ra x hm
    · have : x = (p, vA, vB) := by simpa using hm
      subst this; exact hA
  · rcases List.mem_append.1 hm with hm | hm
    · exact h.pks.rb x hm
    · have : x = (p, vA, vB) := by simpa using hm
      subst this; exact hB
  · rw [List.map_append, h.come, List.take_add_one, hx]; simp
/-- a store into a block of w's that no later pack holds -/
theorem BI.spoil {g o : Nat} {u : Value} {cs : Array Value} {t : TypeId} (h : BI w lo top A n cap L i W v M) (hg : Has W g cs t) (h1 : t ≠ 39) (hl : lo ≤ g) (ht : g < top) (htw : top ≤ w.heap.size) (hne : ∀ j x, i ≤ j → L[j]? = some x → x.2.1 ≠ g ∧ x.2.2 ≠ g) : BI w lo top A n cap L i (W.setCell ⟨g, o, none⟩ u) v M :=
  have hw : g < w.heap.size := Nat.lt_of_lt_of_le ht htw
  ⟨own_set h.row hg h1 u, fun j x hj hx => by
    have hp := h.rest j x hj hx
    exact ⟨hp.la, hp.lb, hp.ha.other _ _ (hne j x hj hx).1, hp.hb.other _ _ (hne j x hj hx).2⟩,
   ⟨ownsRow_setCell_below h.pks.row hw u, fun x hx => ownsRow_setCell_below (h.pks.ra x hx) hw u, fun x hx => ownsRow_setCell_below (h.pks.rb x hx) hw u⟩,
   h.come, h.below.setCell (p := ⟨g, o, none⟩) hl u, by simp only [World.setCell, Array.size_modify]; exact h.size, h.lohs, fun k h1 h2 => (Below.heap_setCell _ _ _ _ (show k ≠ g by omega)).trans (h.kept k h1 h2)⟩
end
section
variable {ev : Operand → Value} {o : Oper} {w : World} {x y z u : Operand}
theorem rn_app29 {v v' : Value} {w' : World} {u : Value} {t : TypeId} (ho : o.op = .call { callee := .builtin .append, args := #[x, y], argTypes := #[29, 29] }) (hx : ev x = v) (hy : ev y = u) (ht : o.type = t) (hr : (Builtin.append_ #[29, 29] t #[v, u]).run Tryd.prog w = .ok v' w') : (execOp ev o).run Tryd.prog w = .ok (.value v') w' := by
  subst ht
  simp [execOp, ho, hx, hy, resolve, invoke, builtin, hr, Result.andThen]
theorem rn_bd34 {d s : ByteArray} {A1 A2 : Option Addr} {n1 c1 n2 c2 : Nat} (ho : o.op = .build 34 #[(0, x), (1, y), (2, z), (3, u)]) (hx : ev x = .string d) (hy : ev y = .string s) (hz : ev z = .slice A1 n1 c1) (hu : ev u = .slice A2 n2 c2) : (execOp ev o).run Tryd.prog w = .ok (.value (.agg #[.string d, .string s, .slice A1 n1 c1, .slice A2 n2 c2])) w := by
  simp [execOp, ho, hx, hy, hz, hu, go_sem]
theorem rn_bs29 {d s : ByteArray} {A1 A2 : Option Addr} {n1 c1 n2 c2 : Nat} (ho : o.op = .buildSlice 29 1 #[(0, x)]) (hx : ev x = .agg #[.string d, .string s, .slice A1 n1 c1, .slice A2 n2 c2]) : (execOp ev o).run Tryd.prog w = .ok (.value (.slice (some ⟨w.heap.size, 0, none⟩) 1 1)) (w.alloc (.cells #[.string d, .string s, .slice A1 n1 c1, .slice A2 n2 c2] 34)) := by
  simp [execOp, ho, hx, go_sem]
end
end Go.Proofs.YtjhjolnflkekoaaDoor
