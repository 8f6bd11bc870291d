/- The law of append once more: what stood in the list's cells stands there still. -/
import Derived.Test.YtnepfllbfagfnaaDoorOwnG
namespace Go.Proofs.YtnepfllbfagfnaaDoor
open Go.RowKit
/-- append onto such a list: the cells that it had stand where they stood -/
theorem run_append_kept {t e : TypeId} {z : Value} {bytes : Nat} (E : Elem t e z bytes) (w : World) (ty : TypeId) (base : Nat) (v : Value) (xs : List Value) (hown : OwnsG e base v xs w)
    (b c : Nat) (news : Array Value) (hnews : Has w b news e) (h1 : ∀ u ∈ news.toList, u.oneCell' = true) (h63 : xs.length + news.size ≤ 1000000000000) (hbase : base ≤ w.heap.size) :
    ∃ v' w', (Builtin.append_ #[t, t] ty #[v, .slice (some ⟨b, 0, none⟩) news.size c]).run Tryd.prog w = .ok v' w' ∧ OwnsG e base v' (xs ++ news.toList) w' ∧ (∀ gg n cc, v = .slice (some ⟨gg, 0, none⟩) n cc → ∀ j, j < xs.length → w'.cell? ⟨gg, j, none⟩ = xs[j]?) ∧ Below base w w' := by
  obtain ⟨i, hi, hz0, hz1, hz2⟩ := E.info
  have hbd := E.hb
  have hbytes : (xs.length + news.size) * bytes ≤ 140737488355328 := Nat.le_trans (Nat.mul_le_mul h63 hbd) (by decide)
  have hnb := World.news_of_block hnews
  rcases hown with ⟨rfl, rfl⟩ | ⟨g, cap, cur, fz, rfl, hbg, hg, hfz, hnc, hcm, hcs, htake⟩
  · obtain ⟨v', w', r1, r2, r3, _⟩ := run_append_own (P := Tryd.prog) w base t ty e i z 1 bytes E.ht hi hz0 hz1 hz2 E.hz (by decide) (.slice none 0 0) 0 [] (World.ownsRow_nil w base e 1) ⟨b, 0, none⟩ news.size c news.toList (by simp) hnb h1 (by unfold maxLen; simp at h63; omega) (by simpa using hbytes) hbase
    refine ⟨v', w', r1, OwnsG.of ?_, fun gg n cc h => by simp at h, (Below.refl base w).grown r3 hbase (fun k hk => by simp [Value.ownBlock] at hk)⟩
    show w'.ownsRow base e 1 v' ([] ++ news.toList).length ([] ++ news.toList)
    simpa using r2
  · by_cases hroom : xs.length + news.size ≤ cap
    · have hf := run_firstCells_some (P := Tryd.prog) w i.size news.size ⟨b, 0, none⟩ news.size c news.toList (by simp [hz1]) hnb
      have hst := run_storeCells_cells (P := Tryd.prog) g xs.length news.toList 0 w
        (fun j hj => by have hj' : j < news.size := by simpa using hj
                        simp [World.cell?, hg]; omega)
        (fun j hj => by have hj' : j < news.size := by simpa using hj
                        have := hfz (xs.length + 0 + j) (by omega)
                        simpa [World.frozen?, hg] using this) h1
      simp only [Nat.add_zero] at hst
      rw [hz1] at hf
      refine ⟨.slice (some ⟨g, 0, none⟩) (xs.length + news.size) cap, w.setCells g xs.length news.toList, ?_, ?_, ?_, ?_⟩
      · simp [Builtin.append_, run_underlying E.ht, sizeOf, typeInfo, hi, Builtin.lenOf, hroom, hf, Addr.add_lit, hz1, hst]
      · have hh := heap_setCells g e fz news.toList xs.length cur.toList w (by simpa using hg) (by simp [hcs]; omega)
        refine .inr ⟨g, cap, _, fz, by simp, hbg, hh, hfz, by simpa using hroom, hcm, by simp [hcs]; omega, ?_⟩
        rw [htake]
        exact List.take_left
      · intro gg n cc hv j hj
        simp only [Value.slice.injEq, Option.some.injEq, Addr.mk.injEq] at hv
        obtain ⟨⟨rfl, _⟩, _, rfl⟩ := hv
        have hh := heap_setCells g e fz news.toList xs.length cur.toList w (by simpa using hg) (by simp [hcs]; omega)
        rw [htake] at hh
        simp only [World.cell?, hh]
        simp [List.getElem?_append_left hj, hj]
      · obtain ⟨a1, a2, a3, a4⟩ := setCells_size g news.toList xs.length w
        exact ⟨a2, a3, a4, Nat.le_of_eq a1.symm, fun k hk => heap_setCells_other g k (by omega) _ _ _⟩
    · have holds : ∀ j u, xs[j]? = some u → w.cell? ((⟨g, 0, none⟩ : Addr).add j) = some u := fun j u hu => by
        have hj : j < xs.length := (List.getElem?_eq_some_iff.1 hu).1
        have hc := OwnsG.cell (e := e) (base := base) (n := xs.length) (cap := cap) (.inr ⟨g, cap, cur, fz, rfl, hbg, hg, hfz, hnc, hcm, hcs, htake⟩) j hj
        rw [Addr.add_mid, Nat.zero_add, hc]; exact hu
      have hr := run_append_grow (P := Tryd.prog) w t ty e i z E.ht hi hz0 ⟨g, 0, none⟩ xs.length cap xs (by simp [hz1]) holds ⟨b, 0, none⟩ news.size c news.toList (by simp [hz1]) hnb (by omega) (by omega) (growslice_fits (by omega) (by rw [hz2]; exact hbytes))
      have hge := grownCap_ge w (xs.length + news.size) cap e
      have hcm2 : grownCap w (xs.length + news.size) cap e ≤ maxLen := grownCap_le_maxLen w (xs.length + news.size) cap e (by unfold maxLen; omega)
      refine ⟨_, _, hr, .inr ⟨w.heap.size, _, _, (0, 0), by simp, hbase, heap_alloc_new w.drew _, fun j _ => by simp, by simpa using hge, hcm2, ?_, ?_⟩, ?_, ⟨rfl, rfl, rfl, by simp, fun k hk => heap_alloc_old w.drew _ (show k < w.drew.heap.size by have : w.drew.heap.size = w.heap.size := rfl; omega)⟩⟩
      · simp [size_zeroCells, E.hz]; omega
      · simp only [Array.toList_append, List.append_assoc]
        rw [← List.append_assoc]
        exact List.take_left
      · intro gg n cc hv j hj
        simp only [Value.slice.injEq, Option.some.injEq, Addr.mk.injEq] at hv
        obtain ⟨⟨rfl, _⟩, _, rfl⟩ := hv
        have hc := OwnsG.cell (e := e) (base := base) (n := xs.length) (cap := cap) (.inr ⟨g, cap, cur, fz, rfl, hbg, hg, hfz, hnc, hcm, hcs, htake⟩) j hj
        rw [← hc]
        exact World.cell?_of_block (heap_alloc_old w.drew _ (show g < w.drew.heap.size from (Array.getElem?_eq_some_iff.1 hg).1))
theorem step_kept {t e : TypeId} {z : Value} {bytes : Nat} (E : Elem t e z bytes) {ops : Array Oper} {o : Oper} {a : Act} {w : World} {K : Act → World → Prop} {Q : Exit → Act → World → Prop} {F : Prop} (hgd : o.guard = none) (s x : Operand)
    (ho : o.op = .call { callee := .builtin .append, args := #[s, x], argTypes := #[t, t] }) (base : Nat) (v : Value) (xs : List Value) (hs : a.eval s = v) (hown : OwnsG e base v xs w)
    (b c : Nat) (news : Array Value) (hx : a.eval x = .slice (some ⟨b, 0, none⟩) news.size c) (hnews : Has w b news e) (h1 : ∀ u ∈ news.toList, u.oneCell' = true) (h63 : xs.length + news.size ≤ 1000000000000) (hbase : base ≤ w.heap.size)
    (h : ∀ v' w', OwnsG e base v' (xs ++ news.toList) w' → (∀ gg n cc, v = .slice (some ⟨gg, 0, none⟩) n cc → ∀ j, j < xs.length → w'.cell? ⟨gg, j, none⟩ = xs[j]?) → Below base w w' → K (a.put o.dst v') w') :
    if Region.wanted o (yielded ops a.tmps) = true then Oper.wp Tryd.prog o a w K Q else F := by
  rw [if_pos (by simp [Region.wanted, hgd])]
  obtain ⟨v', w', hr, h2, h3, h4⟩ := run_append_kept E w o.type base v xs hown b c news hnews h1 h63 hbase
  unfold Oper.wp execOp
  simp only [ho, resolve, invoke, builtin, Sem.run_bind, Sem.run_pure, Result.andThen_ok, List.map_toArray, List.map_cons, List.map_nil, hs, hx, hr]
  exact h v' w' h2 h3 h4
end Go.Proofs.YtnepfllbfagfnaaDoor
