/- Packs as they lie in memory: a pack's blob, its digest, a row of its chunks' digests, a row of their places. -/
import Derived.Test.YtjhjolnflkekoaaDoorShelf
import Derived.Test.YtjhjolnflkekoaaDoorRef
import Derived.Test.YtjhjolnflkekoaaDoorRefM
import Derived.Test.YtjhjolnflkekoaaDoorSHeap
import Derived.Test.YtjhjolnflkekoaaDoorSSum
namespace Go.Proofs.YtjhjolnflkekoaaDoor
open Go.RowKit Go.Maps
open Pk
set_option linter.unusedVariables false
/-- a text's digest -/
def dg (s : ByteArray) : ByteArray := S.ofBs (S.Sha.digest (S.bs s))
theorem dig_any (s : ByteArray) (hs : s.size ≤ 900000000000) (w : World) (ht : S.Tabs w) : Calls Tryd.prog 14 #[.string s] w fun e w' => e = .returned (.string (dg s)) ∧ Below w.heap.size w w' := S.sum_any w ht s hs
/-- the tables stand -/
theorem tabs_below {B : Nat} {w w' : World} (h : S.Tabs w) (hb : Below B w w') (hB : w.heap.size ≤ B) : S.Tabs w' := h.below' (hb.mono hB)
/-- a pack's blob -/
def pb (p : List ByteArray) : ByteArray := ofBs (blob (p.map bs))
theorem pb_size (p : List ByteArray) : (pb p).size = 6 + 2 * p.length + tot p := by
  unfold pb tot; rw [ofBs_size, blob_len, List.length_map]
/-- where its k-th chunk stands -/
def pat (p : List ByteArray) (k : Nat) : Nat := 6 + 2 * p.length + tot (p.take k)
theorem pat_at (p : List ByteArray) (k : Nat) (h : k < p.length) : (at' (p.map bs)).getD k 0 = pat p k := at_get p k h
/-! rows of some cells each -/
theorem flat_len {α : Type} (f : α → List Value) (m : Nat) (hm : ∀ x, (f x).length = m) : ∀ l : List α, (l.flatMap f).length = l.length * m
  | [] => by simp
  | x :: r => by rw [List.flatMap_cons, List.length_append, hm, flat_len f m hm r, List.length_cons, Nat.succ_mul, Nat.add_comm]
theorem flat_get {α : Type} (f : α → List Value) (m : Nat) (hm : ∀ x, (f x).length = m) : ∀ (l : List α) (k : Nat) (x : α), l[k]? = some x → ∀ i u, (f x)[i]? = some u → (l.flatMap f)[k * m + i]? = some u
  | [], k, x, h => by simp at h
  | y :: r, 0, x, h => fun i u hu => by
    simp at h; subst h
    have hj : i < (f y).length := (List.getElem?_eq_some_iff.1 hu).1
    rw [List.flatMap_cons, Nat.zero_mul, Nat.zero_add, List.getElem?_append_left hj]; exact hu
  | y :: r, k + 1, x, h => fun i u hu => by
    have hr := flat_get f m hm r k x (by simpa using h) i u hu
    rw [List.flatMap_cons, List.getElem?_append_right (by rw [hm, Nat.succ_mul]; omega), hm, Nat.succ_mul, show k * m + m + i - m = k * m + i by omega]
    exact hr
theorem flat_set {α : Type} (f : α → List Value) (m : Nat) (hm : ∀ x, (f x).length = m) (y : α) : ∀ (l : List α) (k : Nat), k < l.length → (l.flatMap f).take (k * m) ++ f y ++ (l.flatMap f).drop (k * m + m) = (l.set k y).flatMap f
  | [], k, h => by simp at h
  | x :: r, 0, _ => by
    rw [List.set_cons_zero, List.flatMap_cons, List.flatMap_cons, Nat.zero_mul, List.take_zero, List.nil_append, Nat.zero_add, List.drop_append, hm, Nat.sub_self, List.drop_zero, List.drop_eq_nil_of_le (by rw [hm]; exact Nat.le_refl _), List.nil_append]
  | x :: r, k + 1, h => by
    have hr := flat_set f m hm y r k (by simpa using h)
    rw [List.set_cons_succ, List.flatMap_cons, List.flatMap_cons, ← hr, Nat.succ_mul, List.take_append, List.drop_append, hm, List.take_of_length_le (by rw [hm]; omega), List.drop_eq_nil_of_le (by rw [hm]; omega), List.nil_append, show k * m + m - m = k * m by omega, show k * m + m + m - m = k * m + m by omega]
    simp only [List.append_assoc]
/-- places -/
def pl3 (x : ByteArray × Nat × Nat) : List Value := [.string x.1, .int .i64 (x.2.1 : Int), .int .i64 (x.2.2 : Int)]
def tC (l : List (ByteArray × Nat × Nat)) : Array Value := (l.flatMap pl3).toArray
theorem tC_size (l : List (ByteArray × Nat × Nat)) : (tC l).size = l.length * 3 := by
  unfold tC; rw [List.size_toArray, flat_len pl3 3 (fun _ => rfl)]
theorem tC_cell {w : World} {b : Nat} {l : List (ByteArray × Nat × Nat)} (h : Has w b (tC l) 42) (k : Nat) (x : ByteArray × Nat × Nat) (hx : l[k]? = some x) :
    w.cell? ⟨b, k * 3, none⟩ = some (.string x.1) ∧ w.cell? ⟨b, k * 3 + 1, none⟩ = some (.int .i64 (x.2.1 : Int)) ∧ w.cell? ⟨b, k * 3 + 2, none⟩ = some (.int .i64 (x.2.2 : Int)) := by
  have f := flat_get pl3 3 (fun _ => rfl) l k x hx
  refine ⟨?_, ?_, ?_⟩
  · rw [h.cell]; unfold tC; rw [List.getElem?_toArray]; exact f 0 _ rfl
  · rw [h.cell]; unfold tC; rw [List.getElem?_toArray]; exact f 1 _ rfl
  · rw [h.cell]; unfold tC; rw [List.getElem?_toArray]; exact f 2 _ rfl
/-- a pack's places -/
def plT (p : List ByteArray) : List (ByteArray × Nat × Nat) := (List.range p.length).map fun k => (dg (pb p), pat p k, (p.getD k ⟨#[]⟩).size)
theorem plT_len (p : List ByteArray) : (plT p).length = p.length := by simp [plT]
theorem plT_get (p : List ByteArray) (k : Nat) (h : k < p.length) : (plT p)[k]? = some (dg (pb p), pat p k, (p.getD k ⟨#[]⟩).size) := by
  simp [plT, h]
/-- the first k of them, and empty ones -/
def plU (p : List ByteArray) (k : Nat) : List (ByteArray × Nat × Nat) := (plT p).take k ++ List.replicate (p.length - k) (⟨#[]⟩, 0, 0)
theorem plU_zero (p : List ByteArray) : plU p 0 = List.replicate p.length (⟨#[]⟩, 0, 0) := by simp [plU]
theorem plU_all (p : List ByteArray) : plU p p.length = plT p := by
  unfold plU; rw [List.take_of_length_le (by rw [plT_len]; exact Nat.le_refl _), Nat.sub_self]; simp
theorem plU_len (p : List ByteArray) (k : Nat) (h : k ≤ p.length) : (plU p k).length = p.length := by
  unfold plU; rw [List.length_append, List.length_take, List.length_replicate, plT_len]; omega
theorem plU_set (p : List ByteArray) (k : Nat) (h : k < p.length) : (plU p k).set k (dg (pb p), pat p k, (p.getD k ⟨#[]⟩).size) = plU p (k + 1) := by
  unfold plU
  have hl : ((plT p).take k).length = k := by rw [List.length_take, plT_len]; omega
  have hk : k < (plT p).length := by rw [plT_len]; exact h
  have hg := plT_get p k h
  rw [List.getElem?_eq_getElem hk] at hg
  rw [List.set_append_right _ _ (by omega), hl, Nat.sub_self, show p.length - k = (p.length - (k + 1)) + 1 by omega, List.replicate_succ, List.set_cons_zero, List.take_succ_eq_append_getElem hk, List.append_assoc, Option.some.inj hg]
  rfl
/-- a pack as it lies, its rows in blocks a and b -/
def pkV (p : List ByteArray) (a b : Nat) : Value := .agg #[.string (pb p), .string (dg (pb p)), .slice (some ⟨a, 0, none⟩) p.length p.length, .slice (some ⟨b, 0, none⟩) p.length p.length]
def pkC (x : List ByteArray × Nat × Nat) : List Value := [.string (pb x.1), .string (dg (pb x.1)), .slice (some ⟨x.2.1, 0, none⟩) x.1.length x.1.length, .slice (some ⟨x.2.2, 0, none⟩) x.1.length x.1.length]
structure PkAt (w : World) (lo : Nat) (p : List ByteArray) (a b : Nat) : Prop where
  la : lo ≤ a
  lb : lo ≤ b
  ha : Has w a (sTx (p.map dg)) 9
  hb : Has w b (tC (plT p)) 42
theorem PkAt.below {w w' : World} {B lo : Nat} {p : List ByteArray} {a b : Nat} (h : PkAt w lo p a b) (hb : Below B w w') (hB : w.heap.size ≤ B) : PkAt w' lo p a b :=
  ⟨h.la, h.lb, h.ha.below hb (Nat.lt_of_lt_of_le h.ha.lt hB), h.hb.below hb (Nat.lt_of_lt_of_le h.hb.lt hB)⟩
theorem PkAt.mono {w : World} {lo lo' : Nat} {p : List ByteArray} {a b : Nat} (h : PkAt w lo p a b) (hl : lo' ≤ lo) : PkAt w lo' p a b := ⟨Nat.le_trans hl h.la, Nat.le_trans hl h.lb, h.ha, h.hb⟩
/-- a row of packs -/
structure Pks (w : World) (lo : Nat) (v : Value) (L : List (List ByteArray × Nat × Nat)) : Prop where
  row : w.ownsRow lo 39 4 v L.length (L.flatMap pkC)
  each : ∀ x ∈ L, PkAt w lo x.1 x.2.1 x.2.2
  apart : L.Pairwise fun x y => x.2.1 < y.2.1 ∧ x.2.2 < y.2.2
theorem Pks.nil (w : World) (lo : Nat) : Pks w lo (.slice none 0 0) [] := ⟨World.ownsRow_nil _ _ _ _, (fun x hx => absurd hx (by simp)), List.Pairwise.nil⟩
theorem own_has {w : World} {lo : Nat} {e : TypeId} {m n : Nat} {v : Value} {xs : List Value} (h : w.ownsRow lo e m v n xs) {g : Nat} {cs : Array Value} {t : TypeId} (hg : Has w g cs t) (ht : t ≠ e) : v.ownBlock ≠ some g := by
  intro he
  rcases h.2 with ⟨rfl, _⟩ | ⟨g', cap, cur, rfl, _, hh, _⟩
  · simp [Value.ownBlock] at he
  · simp [Value.ownBlock] at he
    subst he
    unfold Has at hg
    rw [hh] at hg
    have := Option.some.inj hg
    simp at this
    exact ht this.2.symm
theorem has_ne {w : World} {g g' : Nat} {cs cs' : Array Value} {t t' : TypeId} (h : Has w g cs t) (h' : Has w g' cs' t') (ht : t ≠ t') : g ≠ g' := by
  rintro rfl
  unfold Has at h h'
  rw [h] at h'
  have := Option.some.inj h'
  simp at this
  exact ht this.2
theorem Has.grown {w w' : World} {b : Nat} {cs : Array Value} {t : TypeId} {r : Option Nat} (h : Has w b cs t) (hg : w.grownBy w' r) (hr : r ≠ some b) : Has w' b cs t := by
  have hl := h.lt
  unfold Has at h ⊢
  rw [hg.block b hl (fun e => hr e.symm)]; exact h
theorem own_below {w w' : World} {B lo : Nat} {e : TypeId} {m n : Nat} {v : Value} {xs : List Value} (h : w.ownsRow lo e m v n xs) (hb : Below B w w') (hB : w.heap.size ≤ B) : w'.ownsRow lo e m v n xs := by
  refine ⟨h.1, ?_⟩
  rcases h.2 with hn | ⟨g, cap, cur, rfl, h1, h2, rest⟩
  · exact .inl hn
  · refine .inr ⟨g, cap, cur, rfl, h1, ?_, rest⟩
    rw [hb.block g (Nat.lt_of_lt_of_le (Array.getElem?_eq_some_iff.1 h2).1 hB)]
    exact h2
theorem own_mono {w : World} {lo lo' : Nat} {e : TypeId} {m n : Nat} {v : Value} {xs : List Value} (h : w.ownsRow lo e m v n xs) (hl : lo' ≤ lo) : w.ownsRow lo' e m v n xs := by
  refine ⟨h.1, ?_⟩
  rcases h.2 with hn | ⟨g, cap, cur, rfl, h1, rest⟩
  · exact .inl hn
  · exact .inr ⟨g, cap, cur, rfl, Nat.le_trans hl h1, rest⟩
/-- a store into a block of another type -/
theorem own_set {w : World} {lo : Nat} {e : TypeId} {m n : Nat} {v : Value} {xs : List Value} (h : w.ownsRow lo e m v n xs) {g o : Nat} {cs : Array Value} {t : TypeId} (hg : Has w g cs t) (ht : t ≠ e) (u : Value) : (w.setCell ⟨g, o, none⟩ u).ownsRow lo e m v n xs := by
  have hne := own_has h hg ht
  refine ⟨h.1, ?_⟩
  rcases h.2 with hn | ⟨g', cap, cur, rfl, h1, h2, rest⟩
  · exact .inl hn
  · refine .inr ⟨g', cap, cur, rfl, h1, ?_, rest⟩
    rw [Below.heap_setCell _ _ _ _ (fun e => hne (by subst e; simp [Value.ownBlock]))]
    exact h2
theorem Pks.below {w w' : World} {B lo : Nat} {v : Value} {L : List (List ByteArray × Nat × Nat)} (h : Pks w lo v L) (hb : Below B w w') (hB : w.heap.size ≤ B) : Pks w' lo v L :=
  ⟨own_below h.row hb hB, fun x hx => (h.each x hx).below hb hB, h.apart⟩
theorem Pks.mono {w : World} {lo lo' : Nat} {v : Value} {L : List (List ByteArray × Nat × Nat)} (h : Pks w lo v L) (hl : lo' ≤ lo) : Pks w lo' v L :=
  ⟨own_mono h.row hl, fun x hx => (h.each x hx).mono hl, h.apart⟩
theorem Pks.set {w : World} {lo : Nat} {v : Value} {L : List (List ByteArray × Nat × Nat)} (h : Pks w lo v L) {g o : Nat} {cs : Array Value} {t : TypeId} (hg : Has w g cs t) (h1 : t ≠ 39) (h2 : t ≠ 9) (h3 : t ≠ 42) (u : Value) : Pks (w.setCell ⟨g, o, none⟩ u) lo v L :=
  ⟨own_set h.row hg h1 u, fun x hx => by
    have := h.each x hx
    exact ⟨this.la, this.lb, this.ha.other _ _ (has_ne this.ha hg (Ne.symm h2)), this.hb.other _ _ (has_ne this.hb hg (Ne.symm h3))⟩, h.apart⟩
/-- a pack is put behind -/
theorem Pks.push {w w' : World} {lo B : Nat} {v v' : Value} {L : List (List ByteArray × Nat × Nat)} {p : List ByteArray} {a b : Nat} (h : Pks w lo v L) (hp : PkAt w B p a b) (hB : lo ≤ B) (hL : ∀ x ∈ L, x.2.1 < B ∧ x.2.2 < B)
    (hrow : w'.ownsRow lo 39 4 v' (L.length + 1) (L.flatMap pkC ++ pkC (p, a, b))) (hg : w.grownBy w' v.ownBlock) : Pks w' lo v' (L ++ [(p, a, b)]) := by
  have hk : ∀ {q : List ByteArray} {x y z : Nat}, PkAt w z q x y → PkAt w' z q x y := fun hq =>
    ⟨hq.la, hq.lb, hq.ha.grown hg (own_has h.row hq.ha (by decide)), hq.hb.grown hg (own_has h.row hq.hb (by decide))⟩
  refine ⟨by rw [List.length_append, List.flatMap_append]; simpa using hrow, fun x hx => ?_, ?_⟩
  · rcases List.mem_append.1 hx with hx | hx
    · exact hk (h.each x hx)
    · have : x = (p, a, b) := by simpa using hx
      subst this; exact (hk hp).mono hB
  · refine List.pairwise_append.2 ⟨h.apart, List.pairwise_singleton _ _, fun x hx y hy => ?_⟩
    have : y = (p, a, b) := by simpa using hy
    subst this
    have := hL x hx
    exact ⟨Nat.lt_of_lt_of_le this.1 hp.la, Nat.lt_of_lt_of_le this.2 hp.lb⟩
theorem Pks.lts {w : World} {lo : Nat} {v : Value} {L : List (List ByteArray × Nat × Nat)} (h : Pks w lo v L) : ∀ x ∈ L, x.2.1 < w.heap.size ∧ x.2.2 < w.heap.size := fun x hx => ⟨(h.each x hx).ha.lt, (h.each x hx).hb.lt⟩
/-- what is read of it -/
theorem Pks.slice {w : World} {lo : Nat} {v : Value} {L : List (List ByteArray × Nat × Nat)} (h : Pks w lo v L) : ∃ A cap, v = .slice A L.length cap := by
  rcases h.row.2 with ⟨h1, h2⟩ | ⟨g, cap, cur, hv, _⟩
  · exact ⟨none, 0, by rw [h1, h2]⟩
  · exact ⟨_, cap, hv⟩
theorem Pks.cells {w : World} {lo : Nat} {A : Option Addr} {n cap : Nat} {L : List (List ByteArray × Nat × Nat)} (h : Pks w lo (.slice A n cap) L) (k : Nat) (x : List ByteArray × Nat × Nat) (hx : L[k]? = some x) :
    ∃ g, A = some ⟨g, 0, none⟩ ∧ lo ≤ g ∧ g < w.heap.size ∧ w.cell? ⟨g, k * 4, none⟩ = some (.string (pb x.1)) ∧ w.cell? ⟨g, k * 4 + 1, none⟩ = some (.string (dg (pb x.1))) ∧ w.cell? ⟨g, k * 4 + 2, none⟩ = some (.slice (some ⟨x.2.1, 0, none⟩) x.1.length x.1.length) ∧ w.cell? ⟨g, k * 4 + 3, none⟩ = some (.slice (some ⟨x.2.2, 0, none⟩) x.1.length x.1.length) := by
  have hk := (List.getElem?_eq_some_iff.1 hx).1
  have f := flat_get pkC 4 (fun _ => rfl) L k x hx
  have hr := h.row
  rcases hr.2 with ⟨h1, h2⟩ | ⟨g, cap', cur, hv, hb, hh, _⟩
  · omega
  · have e : A = some ⟨g, 0, none⟩ := by cases hv; rfl
    have c : ∀ i u, (pkC x)[i]? = some u → w.cell? ⟨g, k * 4 + i, none⟩ = some u := fun i u hu => by
      have := hr.cells (g := g) (by rw [e]; rfl) (k * 4 + i) u (f i u hu)
      have hadd : (⟨g, 0, none⟩ : Addr).add (k * 4 + i) = ⟨g, k * 4 + i, none⟩ := by unfold Addr.add; split <;> simp_all
      rwa [hadd] at this
    exact ⟨g, e, hb, (Array.getElem?_eq_some_iff.1 hh).1, c 0 _ rfl, c 1 _ rfl, c 2 _ rfl, c 3 _ rfl⟩
end Go.Proofs.YtjhjolnflkekoaaDoor
