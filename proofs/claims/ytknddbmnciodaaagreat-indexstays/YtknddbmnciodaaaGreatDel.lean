/- The library's DeleteFunc at chunks, and the two functions that are handed to it. -/
import Derived.Test.YtknddbmnciodaaaGreatRow
import Derived.Test.YtknddbmnciodaaaGreatCks
import Derived.Test.YtknddbmnciodaaaGreatFresh
import Derived.Shelf.SlicesE.DeleteFunc
namespace Go.Proofs.YtknddbmnciodaaaGreat
open Go.RowKit Go.Lib Go.Sort
open Ix
set_option linter.unusedVariables false
/-- what is asked of such a function: whatever block b holds -/
def PredO (g : Nat) (lb : Array Value) (p : En → Bool) (b : Nat) (w : World) : Prop := ∀ W (x : En), x.1.size ≤ 1000000 → Onl b w W → Calls Tryz.prog g (#[.agg (ck4 x).toArray] ++ lb) W fun e w' => e = .returned (.bool (p x)) ∧ RowKit.Below W.heap.size W w'
/-- how many of the first j stay -/
theorem filt_next (p : En → Bool) (M : List En) (j : Nat) (x : En) (h : M[j]? = some x) : (M.take (j + 1)).filter (fun y => !p y) = (M.take j).filter (fun y => !p y) ++ (if p x = true then [] else [x]) := by
  rw [take_snoc h, List.filter_append]
  cases hp : p x <;> simp [hp]
/-- behind j: i stay, and stand in front; the rest is as it was -/
structure Dl (p : En → Bool) (M D : List En) (i j : Nat) : Prop where
  len : D.length = M.length
  le : i < j
  kept : D.take i = (M.take j).filter fun y => !p y
  rest : ∀ k, j ≤ k → D[k]? = M[k]?
theorem Dl.keep {p : En → Bool} {M D : List En} {i j : Nat} (h : Dl p M D i j) {x : En} (hx : M[j]? = some x) (hp : p x = false) : Dl p M (D.set i x) (i + 1) (j + 1) := by
  have hj := (List.getElem?_eq_some_iff.1 hx).1
  have hi : i < D.length := by have := h.le; have := h.len; omega
  refine ⟨by rw [List.length_set, h.len], by have := h.le; omega, ?_, fun k hk => ?_⟩
  · rw [filt_next p M j x hx, ← h.kept, hp]
    simp only [Bool.false_eq_true, if_false]
    rw [List.take_succ_eq_append_getElem (by rw [List.length_set]; exact hi), List.take_set_of_le (Nat.le_refl _)]
    simp
  · rw [List.getElem?_set_ne (by have := h.le; omega)]
    exact h.rest k (by omega)
theorem Dl.skip {p : En → Bool} {M D : List En} {i j : Nat} (h : Dl p M D i j) {x : En} (hx : M[j]? = some x) (hp : p x = true) : Dl p M D i (j + 1) :=
  ⟨h.len, by have := h.le; omega, by rw [filt_next p M j x hx, ← h.kept, hp]; simp, fun k hk => h.rest k (by omega)⟩
theorem Dl.start {p : En → Bool} {M : List En} {i : Nat} {x : En} (hx : M[i]? = some x) (hp : p x = true) (hall : ∀ j, j < i → ∀ y, M[j]? = some y → p y = false) : Dl p M M i (i + 1) := by
  refine ⟨rfl, by omega, ?_, fun k _ => rfl⟩
  have h1 : (M.take i).filter (fun y => !p y) = M.take i := by
    rw [List.filter_eq_self]
    intro y hy
    obtain ⟨j, hj, e⟩ := List.mem_iff_getElem.1 hy
    rw [List.length_take] at hj
    rw [List.getElem_take] at e
    have := hall j (by omega) y (by rw [List.getElem?_eq_getElem (by omega), e])
    rw [this]; rfl
  rw [filt_next p M i x hx, h1, hp]; simp
theorem Dl.done {p : En → Bool} {M D : List En} {i : Nat} (h : Dl p M D i M.length) : i = (M.filter fun y => !p y).length ∧ D.take i = M.filter fun y => !p y := by
  have h1 := h.kept
  rw [List.take_of_length_le (Nat.le_refl _)] at h1
  refine ⟨?_, h1⟩
  have := congrArg List.length h1
  rw [List.length_take] at this
  have := h.le
  have := h.len
  omega
/-- chunks that stand at the head of a block -/
theorem rw_take {W : World} {b : Nat} {D L : List En} {t : TypeId} (h : Has W b (kC D) t) {i : Nat} (hL : D.take i = L) : Rw ck4 4 W b L := fun k x hx u v hv => by
  rw [← hL] at hx
  have hk : k < i := by
    have := (List.getElem?_eq_some_iff.1 hx).1
    rw [List.length_take] at this; omega
  rw [List.getElem?_take_of_lt hk] at hx
  exact has_rw (f := ck4) (fun _ => rfl) h k x hx u v hv
theorem clear_chunks {W : World} {b i n c ty : Nat} {D : List En} (h : Has W b (kC D) 61) (hn : D.length = n) (hi : i < n) :
    ∃ W', (Builtin.clear_ #[57] ty #[.slice (some ⟨b, i * 4, none⟩) (n - i) c]).run Tryz.prog W = .ok (.tuple #[]) W' ∧ Onl b W W' ∧ Rw ck4 4 W' b (D.take i) := by
  have hz : ∀ w, (zeroValue 61).run Tryz.prog w = .ok (.agg #[.string ⟨#[]⟩, .string ⟨#[]⟩, .int .i64 0, .int .i64 0]) w := Tryz.zeroValue61
  have hzc : (Value.agg #[.string ⟨#[]⟩, .string ⟨#[]⟩, .int .i64 0, .int .i64 0]).cells = (#[.string ⟨#[]⟩, .string ⟨#[]⟩, .int .i64 0, .int .i64 0] : Array Value) := by kernel_rfl
  obtain ⟨zs, hzs⟩ : ∃ zs, zs = (Builtin.zeroCells (#[.string ⟨#[]⟩, .string ⟨#[]⟩, .int .i64 0, .int .i64 0] : Array Value) (n - i)).toList := ⟨_, rfl⟩
  have hzl : zs.length = (n - i) * 4 := by rw [hzs]; simp [Builtin.zeroCells]
  have hz1 : ∀ v ∈ zs, v.oneCell' = true := by
    intro v hv
    rw [hzs] at hv
    simp [Builtin.zeroCells] at hv
    obtain ⟨k, _, rfl⟩ := hv
    have hm : k % 4 = 0 ∨ k % 4 = 1 ∨ k % 4 = 2 ∨ k % 4 = 3 := by omega
    rcases hm with hm | hm | hm | hm <;> rw [hm] <;> rfl
  have hst := run_storeCells_cells (P := Tryz.prog) b (i * 4) zs 0 W (fun j hj => by
      rw [h.cell, hzl] at *
      have hs := kC_size D
      rw [Array.getElem?_eq_getElem (by rw [hs]; omega)]; rfl) (fun j _ => h.frozen _) hz1
  rw [Nat.add_zero] at hst
  refine ⟨W.setCells b (i * 4) zs, ?_, Onl.sets b zs _ _, fun k x hx u v hv => ?_⟩
  · obtain ⟨m, hm⟩ : ∃ m, n - i = m + 1 := ⟨n - i - 1, by omega⟩
    rw [hm] at hzs ⊢
    rw [hzs] at hst
    simp [Builtin.clear_, run_underlying Tryz.underlying57, hz, hzc, hst, hzs]
  · have hk : k < i := by
      have := (List.getElem?_eq_some_iff.1 hx).1
      rw [List.length_take] at this; omega
    have hu : u < 4 := (List.getElem?_eq_some_iff.1 hv).1
    have := rw_take h (rfl : D.take i = _) k x hx u v hv
    refine ⟨?_, ?_⟩
    · rw [World.cell?_setCells_out b _ _ _ _ (fun _ _ => .inl (by show k * 4 + u < i * 4; omega))]; exact this.1
    · rw [World.frozen?_setCells]; exact this.2
/-- chunks whose digests are not endless -/
abbrev SmallEn := {e : En // e.1.size ≤ 1000000}
instance : Inhabited SmallEn := ⟨⟨k0, by decide⟩⟩
theorem small_list : ∀ {M : List En}, (∀ e ∈ M, e.1.size ≤ 1000000) → ∃ L : List SmallEn, L.map Subtype.val = M
  | [], _ => ⟨[], rfl⟩
  | e :: r, h => by
    obtain ⟨L, hL⟩ := small_list (M := r) fun x hx => h x (List.mem_cons_of_mem _ hx)
    exact ⟨⟨e, h e (by simp)⟩ :: L, by rw [List.map_cons, hL]⟩
theorem small_get {M : List En} {L : List SmallEn} (h : L.map Subtype.val = M) {j : Nat} (hj : j < M.length) : (L[j]!).val = M[j]! := by
  subst h
  have hl : j < L.length := by simpa using hj
  rw [getElem!_pos L j hl, getElem!_pos (L.map Subtype.val) j hj, List.getElem_map]
end Go.Proofs.YtknddbmnciodaaaGreat

