/- Rows that a call makes by append: what they hold; the laws of append at this program's element types. -/
import Derived.Test.YteapbbaollmniaaGreatDoorCConv
import Derived.Deep.AppendLies
import Derived.Lib.AppendZerosOnto
import Derived.KernelRfl
import Derived.Laws.CopyOwn
namespace Go.Proofs.YteapbbaollmniaaGreatDoor.C
open Go.RowKit
/-- an element type of one cell, and the list type of it -/
structure Elem (t e : TypeId) (z : Value) (bytes : Nat) : Prop where
  ht : Tryz.prog.underlying t = some (.slice e)
  hi : (Tryz.prog.info? e).map (fun i => (i.zero, i.size, i.bytes)) = some (some z, 1, bytes)
  hz : z.cells.size = 1
  hb : bytes ≤ 24
theorem el5 : Elem 136 5 (.int .u8 0) 1 := ⟨Tryz.underlying136, by kernel_rfl, rfl, by decide⟩
theorem el31 : Elem 166 136 (.slice none 0 0) 24 := ⟨Tryz.underlying166, by kernel_rfl, rfl, by decide⟩
theorem Elem.info {t e : TypeId} {z : Value} {bytes : Nat} (E : Elem t e z bytes) : ∃ i, Tryz.prog.info? e = some i ∧ i.zero = some z ∧ i.size = 1 ∧ i.bytes = bytes := by
  have h := E.hi
  cases hq : Tryz.prog.info? e with
  | none => rw [hq] at h; simp at h
  | some i =>
    rw [hq] at h
    simp only [Option.map_some, Option.some.injEq, Prod.mk.injEq] at h
    exact ⟨i, rfl, h⟩
/-- the list v, made by the call itself (from block base on), holds these cells -/
def Owns (e : TypeId) (base : Nat) (v : Value) (xs : List Value) (w : World) : Prop := w.ownsRow base e 1 v xs.length xs
theorem Owns.nil (e : TypeId) (base : Nat) (w : World) : Owns e base (.slice none 0 0) [] w := World.ownsRow_nil w base e 1
theorem Owns.base_le {e : TypeId} {base : Nat} {v : Value} {xs : List Value} {w : World} (h : Owns e base v xs w) : ∀ k, v.ownBlock = some k → base ≤ k ∧ k < w.heap.size := World.ownsRow.lt h
theorem Owns.alloc {e : TypeId} {base : Nat} {v : Value} {xs : List Value} {w : World} (h : Owns e base v xs w) (o : Obj) : Owns e base v xs (w.alloc o) := World.ownsRow.alloc h o
theorem Owns.mono {e : TypeId} {base base' : Nat} {v : Value} {xs : List Value} {w : World} (h : Owns e base v xs w) (hb : base' ≤ base) : Owns e base' v xs w := by
  obtain ⟨h1, h2⟩ := h
  refine ⟨h1, h2.imp id ?_⟩
  rintro ⟨g, cap, cur, hv, hg, h3⟩
  exact ⟨g, cap, cur, hv, by omega, h3⟩
/-- a new list of no element -/
theorem Owns.fresh {e : TypeId} {base : Nat} (w : World) (hb : base ≤ w.heap.size) : Owns e base (.slice (some ⟨w.heap.size, 0, none⟩) 0 0) [] (w.alloc (.cells #[] e)) :=
  ⟨rfl, .inr ⟨w.heap.size, 0, #[], rfl, hb, Has.new w _ _ _ rfl, Nat.le_refl _, by unfold maxLen; omega, rfl, rfl⟩⟩
theorem U8s_toList_length (l : List Nat) : (U8s l).toList.length = l.length := by simp [U8s]
theorem U8s_app (l l' : List Nat) : (U8s l).toList ++ (U8s l').toList = (U8s (l ++ l')).toList := by simp [U8s]
theorem U8s_one (l : List Nat) : ∀ u ∈ (U8s l).toList, u.oneCell' = true := by
  intro v hv; simp [U8s] at hv; obtain ⟨x, _, rfl⟩ := hv; rfl
/-- row g, of W numbers, which may be written -/
def RowW (w : World) (g W : Nat) (r : Nat → Nat) : Prop := ∀ j, j < W → w.cell? ⟨g, j, none⟩ = some (.int .u8 (r j)) ∧ w.frozen? ⟨g, j, none⟩ = false ∧ r j < 256
/-- what a row that was made so looks like -/
theorem Owns.form {base : Nat} {v : Value} {l : List Nat} {w : World} (h : Owns 5 base v (U8s l).toList w) (hx : ∀ x ∈ l, x < 256) : ∃ a cap, v = .slice a l.length cap ∧ (l.length ≤ cap ∧ cap ≤ 9223372036854775807) ∧ (0 < l.length → ∃ g, a = some ⟨g, 0, none⟩ ∧ base ≤ g ∧ g < w.heap.size ∧ (∃ cur, Has w g cur 5) ∧ RowW w g l.length (fun j => l.getD j 0)) := by
  obtain ⟨h1, h2⟩ := h
  rw [U8s_toList_length] at h2
  rcases h2 with ⟨rfl, h0⟩ | ⟨g, cap, cur, rfl, hg, hh, k1, k2, k3, k4⟩
  · exact ⟨none, 0, by rw [h0], by omega, fun hp => absurd hp (by omega)⟩
  · have hH : Has w g cur 5 := hh
    refine ⟨_, cap, rfl, ⟨k1, by unfold maxLen at k2; omega⟩, fun _ => ⟨g, rfl, hg, hH.lt, ⟨cur, hH⟩, fun j hj => ⟨?_, hH.frozen j, getD_lt hx j⟩⟩⟩
    rw [hH.cell]
    have e : cur.toList[j]? = (U8s l)[j]? := by
      rw [← Array.getElem?_toList (xs := U8s l), ← k4, List.getElem?_take, if_pos (by omega)]
    rw [Array.getElem?_toList] at e
    rw [e, U8s_get _ _ hj]
/-- nothing is appended -/
theorem run_append_none (w : World) (t ty e : TypeId) {z : Value} {bytes : Nat} (E : Elem t e z bytes) (v : Value) (xs : List Value) (base c : Nat) (h : Owns e base v xs w) :
    (Builtin.append_ #[t, t] ty #[v, .slice none 0 c]).run Tryz.prog w = .ok v w := by
  obtain ⟨i, hi, _, hs, _⟩ := E.info
  obtain ⟨h1, h2⟩ := h
  rcases h2 with ⟨rfl, h0⟩ | ⟨g, cap, cur, rfl, hg, hh, k1, k2, k3, k4⟩
  · simp [Builtin.append_, run_underlying E.ht, sizeOf, typeInfo, hi, Builtin.lenOf, Builtin.firstCells]
  · simp [Builtin.append_, run_underlying E.ht, sizeOf, typeInfo, hi, Builtin.lenOf, Builtin.firstCells, k1, storeCells]
/-- a row is appended -/
theorem app_row (w : World) (ty : TypeId) (base : Nat) (v xv : Value) (l0 l : List Nat) (hown : Owns 5 base v (U8s l0).toList w) (hr : Row8 w xv l) (h63 : l0.length + l.length ≤ 1000000) (hbase : base ≤ w.heap.size) :
    ∃ v' w', (Builtin.append_ #[136, 136] ty #[v, xv]).run Tryz.prog w = .ok v' w' ∧ Owns 5 base v' (U8s (l0 ++ l)).toList w' ∧ w.grownBy w' v.ownBlock ∧ (v'.ownBlock = v.ownBlock ∨ v'.ownBlock = some w.heap.size) ∧ Below base w w' := by
  obtain ⟨i, hi, hz0, hz1, hz2⟩ := el5.info
  obtain ⟨a, cap, rfl, hl, hx, hc⟩ := hr
  cases a with
  | none =>
    have h0 : l = [] := by
      apply List.eq_nil_of_length_eq_zero
      by_cases hp : 0 < l.length
      · obtain ⟨g, o, e, _⟩ := hc hp; cases e
      · omega
    subst h0
    refine ⟨v, w, run_append_none w 136 ty 5 el5 v _ base cap hown, by rw [List.append_nil]; exact hown, ⟨rfl, rfl, rfl, Nat.le_refl _, fun _ _ _ => rfl⟩, .inl rfl, Below.refl _ _⟩
  | some ad =>
    have hcells : ∀ j u, (U8s l).toList[j]? = some u → w.cell? (ad.add j) = some u := fun j u hu => by
      have hj : j < l.length := by have := (List.getElem?_eq_some_iff.1 hu).1; rwa [U8s_toList_length] at this
      obtain ⟨g, o, e, _, hd⟩ := hc (by omega)
      cases e
      rw [Addr.add_mid, hd j hj, ← hu, Array.getElem?_toList, U8s_get _ _ hj]
    obtain ⟨v', w', h1, h2, h3, _, h5⟩ := run_append_own_at (P := Tryz.prog) w base 136 ty 5 i (.int .u8 0) 1 1 el5.ht hi hz0 hz1 hz2 el5.hz (by decide) v _ _ hown ad l.length cap (U8s l).toList (by rw [U8s_toList_length]; omega) hcells (U8s_one l) (by rw [U8s_toList_length]; unfold maxLen; omega) (by rw [U8s_toList_length]; omega) hbase
    refine ⟨v', w', h1, ?_, h3, h5, (Below.refl base w).grown h3 hbase (fun k hk => (hown.base_le k hk).1)⟩
    show w'.ownsRow base 5 1 v' (U8s (l0 ++ l)).toList.length _
    rw [U8s_toList_length, List.length_append, ← U8s_app]
    rw [U8s_toList_length] at h2
    exact h2
theorem wpList_appRun {ops : Array Oper} {rest : List Oper} {o : Oper} {a : Act} {w w' : World} {v' : Value} {Q : Exit → Act → World → Prop} (hgd : o.guard = none) (s x : Operand) (t1 t2 : TypeId)
    (ho : o.op = .call { callee := .builtin .append, args := #[s, x], argTypes := #[t1, t2] }) (hr : (Builtin.append_ #[t1, t2] o.type #[a.eval s, a.eval x]).run Tryz.prog w = .ok v' w')
    (h : wpList Tryz.prog ops Q rest (a.put o.dst v') w') : wpList Tryz.prog ops Q (o :: rest) a w := by
  refine wpList_plain hgd fun K hK => ?_
  unfold Oper.wp execOp
  simp only [ho, resolve, invoke, builtin, Sem.run_bind, Sem.run_pure, Result.andThen_ok, List.map_toArray, List.map_cons, List.map_nil, hr]
  exact hK _ _ h
/-- at the operation -/
theorem wpList_appR {ops : Array Oper} {rest : List Oper} {o : Oper} {a : Act} {w : World} {Q : Exit → Act → World → Prop} (hgd : o.guard = none) (s x : Operand)
    (ho : o.op = .call { callee := .builtin .append, args := #[s, x], argTypes := #[136, 136] }) (base : Nat) (v xv : Value) (l0 l : List Nat) (hs : a.eval s = v) (hown : Owns 5 base v (U8s l0).toList w) (hx : a.eval x = xv) (hr : Row8 w xv l)
    (h63 : l0.length + l.length ≤ 1000000) (hbase : base ≤ w.heap.size)
    (h : ∀ v' w', Owns 5 base v' (U8s (l0 ++ l)).toList w' → w.grownBy w' v.ownBlock → Below base w w' → wpList Tryz.prog ops Q rest (a.put o.dst v') w') : wpList Tryz.prog ops Q (o :: rest) a w := by
  obtain ⟨v', w', h1, h2, h3, _, h5⟩ := app_row w o.type base v xv l0 l hown hr h63 hbase
  exact wpList_appRun hgd s x 136 136 ho (by rw [hs, hx]; exact h1) (h v' w' h2 h3 h5)
theorem zeros_toList (k : Nat) : (Builtin.zeroCells (Value.int .u8 0).cells k).toList = (U8s (List.replicate k 0)).toList := by
  have hz : (Value.int .u8 0).cells = #[.int .u8 0] := rfl
  rw [hz]
  apply List.ext_getElem
  · simp [Builtin.zeroCells, U8s]
  · intro j h1 h2
    simp [Builtin.zeroCells, U8s, Nat.mod_one]
/-- noughts are appended -/
theorem app_zeros (w : World) (ty : TypeId) (base : Nat) (v : Value) (l0 : List Nat) (k : Nat) (hown : Owns 5 base v (U8s l0).toList w) (h63 : l0.length + k ≤ 1000000) (hk : 0 < k) (hbase : base ≤ w.heap.size) :
    ∃ v' w', (Builtin.append_ #[136, 3] ty #[v, .int .i64 (k : Int)]).run Tryz.prog w = .ok v' w' ∧ Owns 5 base v' (U8s (l0 ++ List.replicate k 0)).toList w' ∧ Below base w w' := by
  obtain ⟨i, hi, hz0, hz1, hz2⟩ := el5.info
  have hlen : (U8s (l0 ++ List.replicate k 0)).toList.length = l0.length + k := by rw [U8s_toList_length]; simp
  obtain ⟨h1, h2⟩ := hown
  rw [U8s_toList_length] at h1 h2
  -- what is new
  have grown : ∀ (old : Nat) (G : Nat), l0.length + k ≤ G → G ≤ maxLen →
      Owns 5 base (.slice (some ⟨w.heap.size, 0, none⟩) (l0.length + k) G) (U8s (l0 ++ List.replicate k 0)).toList (w.drew.alloc (.cells ((U8s l0).toList.toArray ++ Builtin.zeroCells (Value.int .u8 0).cells k ++ Builtin.zeroCells (Value.int .u8 0).cells (G - (l0.length + k))) 5)) := fun old G hG hm => by
    refine ⟨by simp, .inr ⟨w.heap.size, G, _, by rw [hlen], hbase, heap_alloc_new w.drew _, by rw [hlen]; exact hG, hm, ?_, ?_⟩⟩
    · have hz : (Value.int .u8 0).cells.size = 1 := rfl
      simp only [Array.size_append, List.size_toArray, size_zeroCells, hz, U8s_toList_length]; omega
    · rw [hlen, Nat.mul_one]
      simp only [Array.toList_append, zeros_toList, U8s_app]
      rw [← U8s_app (l0 ++ _), List.take_append_of_le_length (by rw [hlen]; exact Nat.le_refl _), List.take_of_length_le (by rw [hlen]; exact Nat.le_refl _)]
  rcases h2 with ⟨rfl, h0⟩ | ⟨g, cap, cur, rfl, hg, hh, k1, k2, k3, k4⟩
  · obtain rfl : l0 = [] := List.eq_nil_of_length_eq_zero h0
    have hr := Lib.run_append_nil_zeros (P := Tryz.prog) w 136 3 ty 5 i (.int .u8 0) .i64 .i64 el5.ht Tryz.underlying3 hi hz0 k hk (by omega) (by omega) (by rw [hz2]; simp at h63; omega)
    refine ⟨_, _, hr, ?_, (Below.refl _ _).drew.alloc hbase _⟩
    have := grown 0 (grownCap w k 0 5) (by simpa using grownCap_ge w k 0 5) (grownCap_le_maxLen w k 0 5 (by unfold maxLen; simp at h63; omega))
    simpa [U8s] using this
  · have hH : Has w g cur 5 := hh
    by_cases hroom : l0.length + k ≤ cap
    · have hst := run_storeCells_at Tryz.prog g (l0.length * 1) 5 (Builtin.zeroCells (Value.int .u8 0).cells k).toList 0 cur w hh (by rw [zeros_toList, U8s_toList_length]; simp; omega) (by rw [zeros_toList]; exact U8s_one _)
      have hw : IntKind.i64.wrap (k : Int) = k := by rw [IntKind.wrap_i64]; omega
      have hneg : ¬ ((k : Int) < 0) := by omega
      have h48i : ¬ (281474976710656 < (k : Int) * (i.bytes : Int)) := by rw [hz2]; omega
      have hk0 : ¬ (k = 0) := by omega
      simp only [Nat.add_zero] at hst
      have hrun : (Builtin.append_ #[136, 3] ty #[.slice (some ⟨g, 0, none⟩) l0.length cap, .int .i64 (k : Int)]).run Tryz.prog w = .ok (.slice (some ⟨g, 0, none⟩) (l0.length + k) cap) (w.setRow g (cur.toList.take (l0.length * 1) ++ (Builtin.zeroCells (Value.int .u8 0).cells k).toList ++ cur.toList.drop (l0.length * 1 + (Builtin.zeroCells (Value.int .u8 0).cells k).toList.length)).toArray) := by
        simp [Builtin.append_, run_underlying el5.ht, run_underlying Tryz.underlying3, sizeOf, typeInfo, hi, hz1, asInt, asIntOf, hw, hneg, h48i, hroom, hk0, Addr.add_lit]
        simp at hst
        rw [hst]; rfl
      refine ⟨_, _, hrun, ⟨by simp, .inr ⟨g, cap, _, by rw [hlen], hg, setRow_heap w g cur _ 5 _ hh, by rw [hlen]; exact hroom, k2, ?_, ?_⟩⟩, ?_⟩
      · simp only [List.size_toArray, List.length_append, List.length_take, List.length_drop, Array.length_toList, zeros_toList, U8s_size, List.length_replicate]
        omega
      · rw [hlen, k4, zeros_toList, U8s_app, Nat.mul_one]
        rw [List.take_append_of_le_length (by rw [hlen]; exact Nat.le_refl _), List.take_of_length_le (by rw [hlen]; exact Nat.le_refl _)]
      · exact below_setRow (Below.refl _ _) hg _
    · have hold : (Builtin.firstCells i.size l0.length (.slice (some ⟨g, 0, none⟩) l0.length cap)).run Tryz.prog w.drew = .ok (U8s l0).toList.toArray w.drew := by
        refine run_firstCells_some w.drew i.size l0.length ⟨g, 0, none⟩ l0.length cap _ (by rw [hz1, U8s_toList_length]; omega) (fun j u hu => ?_)
        rw [Addr.add_mid, World.cell?_drew, Nat.zero_add, hH.cell, ← Array.getElem?_toList, ← hu, ← k4, List.getElem?_take]
        have : j < (U8s l0).toList.length := (List.getElem?_eq_some_iff.1 hu).1
        rw [U8s_toList_length] at this
        rw [if_pos (by omega)]
      have hr := Lib.run_append_grow_zeros (P := Tryz.prog) w 136 3 ty 5 i (.int .u8 0) .i64 .i64 el5.ht Tryz.underlying3 hi hz0 (some ⟨g, 0, none⟩) l0.length cap (U8s l0).toList hold k hk (by omega) (by omega) (by omega) (by rw [hz2]; omega) (growslice_fits (by omega) (by rw [hz2]; omega))
      exact ⟨_, _, hr, grown cap _ (grownCap_ge w _ _ _) (grownCap_le_maxLen w _ _ _ (by unfold maxLen; omega)), (Below.refl _ _).drew.alloc hbase _⟩
theorem wpList_appZ {ops : Array Oper} {rest : List Oper} {o : Oper} {a : Act} {w : World} {Q : Exit → Act → World → Prop} (hgd : o.guard = none) (s x : Operand)
    (ho : o.op = .call { callee := .builtin .append, args := #[s, x], argTypes := #[136, 3] }) (base : Nat) (v : Value) (l0 : List Nat) (k : Nat) (hs : a.eval s = v) (hown : Owns 5 base v (U8s l0).toList w) (hx : a.eval x = .int .i64 (k : Int)) (hk : 0 < k)
    (h63 : l0.length + k ≤ 1000000) (hbase : base ≤ w.heap.size)
    (h : ∀ v' w', Owns 5 base v' (U8s (l0 ++ List.replicate k 0)).toList w' → Below base w w' → wpList Tryz.prog ops Q rest (a.put o.dst v') w') : wpList Tryz.prog ops Q (o :: rest) a w := by
  obtain ⟨v', w', h1, h2, h5⟩ := app_zeros w o.type base v l0 k hown h63 hk hbase
  exact wpList_appRun hgd s x 136 3 ho (by rw [hs, hx]; exact h1) (h v' w' h2 h5)
end Go.Proofs.YteapbbaollmniaaGreatDoor.C
