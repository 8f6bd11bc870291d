/- Lists of bytes that a call made out of a string: what they hold, whatever mark their row bears behind its end; the law of append. -/
import Derived.Test.YtjhjolnflkekoaaDoorSNum
import Derived.Lib.ConvBytes
namespace Go.Proofs.YtjhjolnflkekoaaDoor.S
open Go.RowKit
/-- the list v, made by the call itself, holds these cells; no cell of its row is frozen -/
def OwnsG (e : TypeId) (base : Nat) (v : Value) (xs : List Value) (w : World) : Prop :=
  (v = .slice none 0 0 ∧ xs = []) ∨ ∃ g cap cur fz, v = .slice (some ⟨g, 0, none⟩) xs.length cap ∧ base ≤ g ∧ w.heap[g]? = some (.cells cur e fz) ∧ (∀ j, j < cap → (decide (fz.1 ≤ j) && decide (j < fz.2)) = false) ∧ xs.length ≤ cap ∧ cap ≤ maxLen ∧ cur.size = cap ∧ cur.toList.take xs.length = xs
theorem OwnsG.of {e : TypeId} {base : Nat} {v : Value} {xs : List Value} {w : World} (h : Owns e base v xs w) : OwnsG e base v xs w := by
  obtain ⟨h1, h2⟩ := h
  rcases h2 with ⟨h2, h3⟩ | ⟨g, cap, cur, hv, hg, hh, h3, h4, h5, h6⟩
  · exact .inl ⟨h2, List.eq_nil_of_length_eq_zero h3⟩
  · exact .inr ⟨g, cap, cur, (0, 0), hv, hg, hh, fun j _ => by simp, h3, h4, by simpa using h5, by simpa using h6⟩
theorem OwnsG.below {e : TypeId} {base : Nat} {v : Value} {xs : List Value} {w w' : World} (h : OwnsG e base v xs w) (hb : Below w.heap.size w w') : OwnsG e base v xs w' := by
  rcases h with h | ⟨g, cap, cur, fz, hv, hg, hh, h3⟩
  · exact .inl h
  · exact .inr ⟨g, cap, cur, fz, hv, hg, by rw [hb.block g (Array.getElem?_eq_some_iff.1 hh).1]; exact hh, h3⟩
theorem OwnsG.alloc {e : TypeId} {base : Nat} {v : Value} {xs : List Value} {w : World} (h : OwnsG e base v xs w) (o : Obj) : OwnsG e base v xs (w.alloc o) :=
  h.below ((Below.refl _ _).alloc (Nat.le_refl _) _)
theorem OwnsG.base_le {e : TypeId} {base : Nat} {v : Value} {xs : List Value} {w : World} (h : OwnsG e base v xs w) : ∀ k, v.ownBlock = some k → base ≤ k ∧ k < w.heap.size := by
  intro k hk
  rcases h with ⟨rfl, _⟩ | ⟨g, cap, cur, fz, rfl, hg, hh, _⟩
  · simp [Value.ownBlock] at hk
  · simp only [Value.ownBlock, Option.some.injEq] at hk
    subst hk
    exact ⟨hg, (Array.getElem?_eq_some_iff.1 hh).1⟩
theorem OwnsG.cell {e : TypeId} {base g cap n : Nat} {xs : List Value} {w : World} (h : OwnsG e base (.slice (some ⟨g, 0, none⟩) n cap) xs w) (j : Nat) (hj : j < xs.length) : w.cell? ⟨g, j, none⟩ = xs[j]? := by
  rcases h with ⟨h0, _⟩ | ⟨g', cap', cur, fz, hv, hg, hh, hf, h3, h4, h5, h6⟩
  · simp at h0
  · simp only [Value.slice.injEq, Option.some.injEq, Addr.mk.injEq] at hv
    obtain ⟨⟨rfl, _⟩, _, rfl⟩ := hv
    have hc : w.cell? ⟨g, j, none⟩ = cur[j]? := by simp [World.cell?, hh]
    rw [hc]
    have h7 : xs[j]? = (cur.toList.take xs.length)[j]? := by rw [h6]
    rw [h7, List.getElem?_take, if_pos hj]; simp
theorem OwnsG.form {e : TypeId} {base : Nat} {v : Value} {xs : List Value} {w : World} (h : OwnsG e base v xs w) (hp : 0 < xs.length) : ∃ g cap, v = .slice (some ⟨g, 0, none⟩) xs.length cap ∧ xs.length ≤ cap ∧ cap ≤ maxLen ∧ base ≤ g ∧ g < w.heap.size := by
  rcases h with ⟨_, h0⟩ | ⟨g, cap, cur, fz, hv, hg, hh, hf, h3, h4, _⟩
  · subst h0; simp at hp
  · exact ⟨g, cap, hv, h3, h4, hg, (Array.getElem?_eq_some_iff.1 hh).1⟩
theorem heap_setCells (b : Nat) (t : TypeId) (fz : Nat × Nat) : ∀ (vs : List Value) (o : Nat) (cs : List Value) (w : World), w.heap[b]? = some (.cells cs.toArray t fz) → o + vs.length ≤ cs.length → (w.setCells b o vs).heap[b]? = some (.cells (cs.take o ++ vs ++ cs.drop (o + vs.length)).toArray t fz)
  | [], o, cs, w, h, _ => by simpa [World.setCells] using h
  | v :: r, o, cs, w, h, hl => by
    rw [World.setCells]
    have h1 : (w.setCell ⟨b, o, none⟩ v).heap[b]? = some (.cells (cs.set o v).toArray t fz) := by
      simp [World.setCell, Array.getElem?_modify, h]
    have h2 := heap_setCells b t fz r (o + 1) (cs.set o v) _ h1 (by simp at hl ⊢; omega)
    have e : (cs.set o v).take (o + 1) ++ r ++ (cs.set o v).drop (o + 1 + r.length) = cs.take o ++ (v :: r) ++ cs.drop (o + (v :: r).length) := by
      have ho : o < cs.length := by simp at hl; omega
      have e1 : (cs.set o v).take (o + 1) = cs.take o ++ [v] := by
        rw [List.take_succ_eq_append_getElem (by simpa using ho), List.take_set_of_le (Nat.le_refl _)]
        simp
      have e2 : (cs.set o v).drop (o + 1 + r.length) = cs.drop (o + (v :: r).length) := by
        rw [List.drop_set_of_lt (by omega)]; congr 1; simp; omega
      rw [e1, e2]; simp
    rw [e] at h2; exact h2
theorem heap_setCells_other (b k : Nat) (hk : k ≠ b) : ∀ (vs : List Value) (o : Nat) (w : World), (w.setCells b o vs).heap[k]? = w.heap[k]?
  | [], _, _ => rfl
  | v :: r, o, w => by
    rw [World.setCells, heap_setCells_other b k hk r (o + 1), Below.heap_setCell _ _ _ _ hk]
theorem setCells_size (b : Nat) : ∀ (vs : List Value) (o : Nat) (w : World), (w.setCells b o vs).heap.size = w.heap.size ∧ (w.setCells b o vs).os = w.os ∧ (w.setCells b o vs).tape = w.tape ∧ (w.setCells b o vs).output = w.output
  | [], _, _ => ⟨rfl, rfl, rfl, rfl⟩
  | v :: r, o, w => by
    rw [World.setCells]
    obtain ⟨a, b', c, d⟩ := setCells_size b r (o + 1) (w.setCell ⟨b, o, none⟩ v)
    exact ⟨a.trans (World.size_setCell _ _ _), b', c, d⟩
/-- append onto such a list -/
theorem run_append_ownG {t e : TypeId} {z : Value} {bytes : Nat} (E : Elem t e z bytes) (w : World) (ty : TypeId) (base : Nat) (v : Value) (xs : List Value) (hown : OwnsG e base v xs w)
    (b c : Nat) (news : Array Value) (hnews : Has w b news e) (h1 : ∀ u ∈ news.toList, u.oneCell' = true) (h63 : xs.length + news.size ≤ 1000000000000) (hbase : base ≤ w.heap.size) :
    ∃ v' w', (Builtin.append_ #[t, t] ty #[v, .slice (some ⟨b, 0, none⟩) news.size c]).run Tryd.prog w = .ok v' w' ∧ OwnsG e base v' (xs ++ news.toList) w' ∧ Below base w w' := by
  obtain ⟨i, hi, hz0, hz1, hz2⟩ := E.info
  have hbd := E.hb
  have hbytes : (xs.length + news.size) * bytes ≤ 140737488355328 := Nat.le_trans (Nat.mul_le_mul h63 hbd) (by decide)
  have hnb := World.news_of_block hnews
  rcases hown with ⟨rfl, rfl⟩ | ⟨g, cap, cur, fz, rfl, hbg, hg, hfz, hnc, hcm, hcs, htake⟩
  · obtain ⟨v', w', r1, r2, r3, _⟩ := run_append_own (P := Tryd.prog) w base t ty e i z 1 bytes E.ht hi hz0 hz1 hz2 E.hz (by decide) (.slice none 0 0) 0 [] (World.ownsRow_nil w base e 1) ⟨b, 0, none⟩ news.size c news.toList (by simp) hnb h1 (by unfold maxLen; simp at h63; omega) (by simpa using hbytes) hbase
    refine ⟨v', w', r1, OwnsG.of ?_, (Below.refl base w).grown r3 hbase (fun k hk => by simp [Value.ownBlock] at hk)⟩
    show w'.ownsRow base e 1 v' ([] ++ news.toList).length ([] ++ news.toList)
    simpa using r2
  · by_cases hroom : xs.length + news.size ≤ cap
    · have hf := run_firstCells_some (P := Tryd.prog) w i.size news.size ⟨b, 0, none⟩ news.size c news.toList (by simp [hz1]) hnb
      have hst := run_storeCells_cells (P := Tryd.prog) g xs.length news.toList 0 w
        (fun j hj => by have hj' : j < news.size := by simpa using hj
                        simp [World.cell?, hg]; omega)
        (fun j hj => by have hj' : j < news.size := by simpa using hj
                        have := hfz (xs.length + 0 + j) (by omega)
                        simpa [World.frozen?, hg] using this) h1
      simp only [Nat.add_zero] at hst
      rw [hz1] at hf
      refine ⟨.slice (some ⟨g, 0, none⟩) (xs.length + news.size) cap, w.setCells g xs.length news.toList, ?_, ?_, ?_⟩
      · simp [Builtin.append_, run_underlying E.ht, sizeOf, typeInfo, hi, Builtin.lenOf, hroom, hf, Addr.add_lit, hz1, hst]
      · have hh := heap_setCells g e fz news.toList xs.length cur.toList w (by simpa using hg) (by simp [hcs]; omega)
        refine .inr ⟨g, cap, _, fz, by simp, hbg, hh, hfz, by simpa using hroom, hcm, by simp [hcs]; omega, ?_⟩
        rw [htake]
        exact List.take_left
      · obtain ⟨a1, a2, a3, a4⟩ := setCells_size g news.toList xs.length w
        exact ⟨a2, a3, a4, Nat.le_of_eq a1.symm, fun k hk => heap_setCells_other g k (by omega) _ _ _⟩
    · have holds : ∀ j u, xs[j]? = some u → w.cell? ((⟨g, 0, none⟩ : Addr).add j) = some u := fun j u hu => by
        have hj : j < xs.length := (List.getElem?_eq_some_iff.1 hu).1
        have hc := OwnsG.cell (e := e) (base := base) (n := xs.length) (cap := cap) (.inr ⟨g, cap, cur, fz, rfl, hbg, hg, hfz, hnc, hcm, hcs, htake⟩) j hj
        rw [Addr.add_mid, Nat.zero_add, hc]; exact hu
      have hr := run_append_grow (P := Tryd.prog) w t ty e i z E.ht hi hz0 ⟨g, 0, none⟩ xs.length cap xs (by simp [hz1]) holds ⟨b, 0, none⟩ news.size c news.toList (by simp [hz1]) hnb (by omega) (by omega) (growslice_fits (by omega) (by rw [hz2]; exact hbytes))
      have hge := grownCap_ge w (xs.length + news.size) cap e
      have hcm2 : grownCap w (xs.length + news.size) cap e ≤ maxLen := grownCap_le_maxLen w (xs.length + news.size) cap e (by unfold maxLen; omega)
      refine ⟨_, _, hr, .inr ⟨w.heap.size, _, _, (0, 0), by simp, hbase, heap_alloc_new w.drew _, fun j _ => by simp, by simpa using hge, hcm2, ?_, ?_⟩, ⟨rfl, rfl, rfl, by simp, fun k hk => heap_alloc_old w.drew _ (show k < w.drew.heap.size by have : w.drew.heap.size = w.heap.size := rfl; omega)⟩⟩
      · simp [size_zeroCells, E.hz]; omega
      · simp only [Array.toList_append, List.append_assoc]
        rw [← List.append_assoc]
        exact List.take_left
end Go.Proofs.YtjhjolnflkekoaaDoor.S
