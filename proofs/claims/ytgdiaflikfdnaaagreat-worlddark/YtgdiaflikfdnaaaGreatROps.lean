/- Single operations over the document's store; a write is put behind its writes. -/
import Derived.Test.YtgdiaflikfdnaaaGreatRList
import Derived.Test.YtgdiaflikfdnaaaGreatTwin2
namespace Go.Proofs.YtgdiaflikfdnaaaGreat
open Go.RowKit Go.Maps
section
variable {ev : Operand → Value} {o : Oper} {w : World} {x y z : Operand}
theorem rn_f79_0 {g k : Nat} (ho : o.op = .fieldAddr 104 x 0) (hx : ev x = .pointer (some ⟨g, k, none⟩)) : (execOp ev o).run Tryz.prog w = .ok (.value (.pointer (some ⟨g, k, none⟩))) w := by
  simp [execOp, ho, hx, go_sem]
theorem rn_f79_1 {g k : Nat} (ho : o.op = .fieldAddr 104 x 1) (hx : ev x = .pointer (some ⟨g, k, none⟩)) : (execOp ev o).run Tryz.prog w = .ok (.value (.pointer (some ⟨g, k + 1, none⟩))) w := by
  simp [execOp, ho, hx, go_sem]
theorem rn_f79_2 {g k : Nat} (ho : o.op = .fieldAddr 104 x 2) (hx : ev x = .pointer (some ⟨g, k, none⟩)) : (execOp ev o).run Tryz.prog w = .ok (.value (.pointer (some ⟨g, k + 2, none⟩))) w := by
  simp [execOp, ho, hx, go_sem]
theorem rn_f79_3 {g k : Nat} (ho : o.op = .fieldAddr 104 x 3) (hx : ev x = .pointer (some ⟨g, k, none⟩)) : (execOp ev o).run Tryz.prog w = .ok (.value (.pointer (some ⟨g, k + 3, none⟩))) w := by
  simp [execOp, ho, hx, go_sem]
theorem rn_f79_4 {g k : Nat} (ho : o.op = .fieldAddr 104 x 4) (hx : ev x = .pointer (some ⟨g, k, none⟩)) : (execOp ev o).run Tryz.prog w = .ok (.value (.pointer (some ⟨g, k + 4, none⟩))) w := by
  simp [execOp, ho, hx, go_sem]
theorem rn_f90_0 {g k : Nat} (ho : o.op = .fieldAddr 117 x 0) (hx : ev x = .pointer (some ⟨g, k, none⟩)) : (execOp ev o).run Tryz.prog w = .ok (.value (.pointer (some ⟨g, k, none⟩))) w := by
  simp [execOp, ho, hx, go_sem]
theorem rn_f90_1 {g k : Nat} (ho : o.op = .fieldAddr 117 x 1) (hx : ev x = .pointer (some ⟨g, k, none⟩)) : (execOp ev o).run Tryz.prog w = .ok (.value (.pointer (some ⟨g, k + 2, none⟩))) w := by
  simp [execOp, ho, hx, go_sem]
theorem rn_load77 {g k : Nat} {v : Value} (ho : o.op = .load 102 x) (hx : ev x = .pointer (some ⟨g, k, none⟩)) (hc : w.cell? ⟨g, k, none⟩ = some v) : (execOp ev o).run Tryz.prog w = .ok (.value v) w := by
  simp [execOp, ho, hx, go_sem, hc]
theorem rn_load45 {g k : Nat} {v : Value} (ho : o.op = .load 55 x) (hx : ev x = .pointer (some ⟨g, k, none⟩)) (hc : w.cell? ⟨g, k, none⟩ = some v) : (execOp ev o).run Tryz.prog w = .ok (.value v) w := by
  simp [execOp, ho, hx, go_sem, hc]
theorem rn_load90 {g k : Nat} {v0 v1 v2 : Value} (ho : o.op = .load 117 x) (hx : ev x = .pointer (some ⟨g, k, none⟩)) (h0 : w.cell? ⟨g, k, none⟩ = some v0) (h1 : w.cell? ⟨g, k + 1, none⟩ = some v1) (h2 : w.cell? ⟨g, k + 2, none⟩ = some v2) : (execOp ev o).run Tryz.prog w = .ok (.value (.agg #[v0, v1, v2])) w := by
  simp [execOp, ho, hx, go_sem, h0, h1, h2]
theorem rn_build90 {n d : ByteArray} (ho : o.op = .build 117 #[(0, x)]) (hx : ev x = .agg #[.string n, .string d]) : (execOp ev o).run Tryz.prog w = .ok (.value (.agg (rcells ⟨n, d, false⟩).toArray)) w := by
  simp [execOp, ho, hx, go_sem, rcells]
theorem rn_bs77 {q : Rw} (ho : o.op = .buildSlice 102 1 #[(0, x)]) (hx : ev x = .agg (rcells q).toArray) : (execOp ev o).run Tryz.prog w = .ok (.value (.slice (some ⟨w.heap.size, 0, none⟩) 1 1)) (w.alloc (.cells (rcells q).toArray 117)) := by
  unfold rcells at hx ⊢
  simp [execOp, ho, hx, go_sem]
theorem rn_app77 {w' : World} {u v r : Value} (ho : o.op = .call { callee := .builtin .append, args := #[x, y], argTypes := #[102, 102] }) (hx : ev x = u) (hy : ev y = v) (hr : (Builtin.append_ #[102, 102] o.type #[u, v]).run Tryz.prog w = .ok r w') : (execOp ev o).run Tryz.prog w = .ok (.value r) w' := by
  unfold execOp
  simp only [ho, resolve, invoke, builtin, Sem.run_bind, Sem.run_pure, Result.andThen_ok, List.map_toArray, List.map_cons, List.map_nil, hx, hy, hr]
theorem rn_len77 {a : Option Addr} {n c : Nat} (ho : o.op = .call { callee := .builtin .len, args := #[x], argTypes := #[102] }) (hx : ev x = .slice a n c) : (execOp ev o).run Tryz.prog w = .ok (.value (.int .i64 (n : Int))) w := by
  simp [execOp, ho, hx, go_sem]
theorem rn_ix77 {g n c i : Nat} (ho : o.op = .indexAddr 102 x y) (hx : ev x = .slice (some ⟨g, 0, none⟩) n c) (hy : ev y = .int .i64 (i : Int)) (hi : i < n) : (execOp ev o).run Tryz.prog w = .ok (.value (.pointer (some ⟨g, i * 3, none⟩))) w := by
  have q1 : (i : Int) < (n : Int) := by omega
  simp [execOp, ho, hx, hy, go_sem, q1]
theorem rn_eql25 {u v : Int} {c : Bool} (ho : o.op = .binOp .eql 26 x y 26) (hx : ev x = .int .i64 u) (hy : ev y = .int .i64 v) (hc : decide (u = v) = c) : (execOp ev o).run Tryz.prog w = .ok (.value (.bool c)) w := by
  have q : (u == v) = c := by rw [← hc]; by_cases h : u = v <;> simp [h]
  simp [execOp, ho, hx, hy, go_sem, q]
theorem rn_neq3 {u v : Int} {c : Bool} (ho : o.op = .binOp .neq 3 x y 3) (hx : ev x = .int .i64 u) (hy : ev y = .int .i64 v) (hc : decide (u = v) = !c) : (execOp ev o).run Tryz.prog w = .ok (.value (.bool c)) w := by
  have q : (u != v) = c := by
    have : (u != v) = !decide (u = v) := by by_cases h : u = v <;> simp [h]
    rw [this, hc, Bool.not_not]
  simp [execOp, ho, hx, hy, go_sem, q]
theorem rn_neq4 {u v : Bool} {c : Bool} (ho : o.op = .binOp .neq 4 x y 4) (hx : ev x = .bool u) (hy : ev y = .bool v) (hc : decide (u = v) = !c) : (execOp ev o).run Tryz.prog w = .ok (.value (.bool c)) w := by
  have q : (u == v) = !c := by rw [← hc]; cases u <;> cases v <;> rfl
  simp [execOp, ho, hx, hy, go_sem, q]
theorem rn_not4 {b c : Bool} (ho : o.op = .unOp .not 4 x) (hx : ev x = .bool b) (hc : (!b) = c) : (execOp ev o).run Tryz.prog w = .ok (.value (.bool c)) w := by
  subst hc; simp [execOp, ho, hx, go_sem]
theorem enter71 (args : Array Value) : (callFunc 78 args).run Tryz.prog w = .ok (.enter 78 args) w := by kernel_rfl
theorem enter73 (args : Array Value) : (callFunc 77 args).run Tryz.prog w = .ok (.enter 77 args) w := by kernel_rfl
theorem enter51 (args : Array Value) : (callFunc 47 args).run Tryz.prog w = .ok (.enter 47 args) w := by kernel_rfl
theorem enter31 (args : Array Value) : (callFunc 21 args).run Tryz.prog w = .ok (.enter 21 args) w := by kernel_rfl
theorem enter10 (args : Array Value) : (callFunc 51 args).run Tryz.prog w = .ok (.enter 51 args) w := by kernel_rfl
theorem enter43 (args : Array Value) : (callFunc 63 args).run Tryz.prog w = .ok (.enter 63 args) w := by kernel_rfl
theorem enter29 (args : Array Value) : (callFunc 66 args).run Tryz.prog w = .ok (.enter 66 args) w := by kernel_rfl
theorem enter45 (args : Array Value) : (callFunc 67 args).run Tryz.prog w = .ok (.enter 67 args) w := by kernel_rfl
theorem enter15 (args : Array Value) : (callFunc 73 args).run Tryz.prog w = .ok (.enter 73 args) w := by kernel_rfl
theorem enter50 (args : Array Value) : (callFunc 74 args).run Tryz.prog w = .ok (.enter 74 args) w := by kernel_rfl
theorem rn_load45o {g k : Nat} {v : Value} (ho : o.op = .load 102 x) (hx : ev x = .pointer (some ⟨g, k, none⟩)) (hc : w.cell? ⟨g, k, none⟩ = some v) : (execOp ev o).run Tryz.prog w = .ok (.value v) w := rn_load77 ho hx hc
end
theorem rcells_one (q : Rw) : ∀ u ∈ rcells q, u.oneCell' = true := by
  intro u hu
  simp [rcells] at hu
  rcases hu with rfl | rfl | rfl <;> rfl
/-- rows of other kinds lie in other blocks -/
theorem rows_ne {w : World} {e e' : TypeId} {k k' n n' : Nat} {v v' : Value} {xs xs' : List Value} (h : w.ownsRow 0 e k v n xs) (h' : w.ownsRow 0 e' k' v' n' xs') (hne : e ≠ e') (g : Nat) (hg : v.ownBlock = some g) (hg' : v'.ownBlock = some g) : False := by
  rcases h.2 with ⟨rfl, _⟩ | ⟨g1, cap, cur, rfl, _, h3, _⟩
  · simp [Value.ownBlock] at hg
  · rcases h'.2 with ⟨rfl, _⟩ | ⟨g2, cap', cur', rfl, _, h3', _⟩
    · simp [Value.ownBlock] at hg'
    · simp [Value.ownBlock] at hg hg'
      subst hg hg'
      rw [h3] at h3'
      cases h3'
      exact hne rfl
theorem rf_writes {w W : World} {S : Nat → Prop} {b : Nat} {r : Rf} {gv wv v : Value} {q : Rw} (h1 : Has w b (rfcells gv wv r) 104) (hgd : w.ownsRow 0 35 2 gv r.good.length (objCells r.good)) (hrow : w.ownsRow 0 117 3 wv r.writes.length (r.writes.flatMap rcells)) (h4 : S b) (h5 : ∀ g, gv.ownBlock = some g → S g) (h6 : ∀ g, wv.ownBlock = some g → S g) (h7 : ∀ i, S i → i < w.heap.size)
    (hO : Only (fun i => wv.ownBlock = some i) w W) (hr : W.ownsRow 0 117 3 v (r.writes.length + 1) (r.writes.flatMap rcells ++ rcells q)) (hv : ∀ g, v.ownBlock = some g → wv.ownBlock = some g ∨ w.heap.size ≤ g) : AfterR w (W.setCell ⟨b, 1, none⟩ v) S b { r with writes := r.writes ++ [q] } := by
  have g1 : Has W b (rfcells gv wv r) 104 := hO.has h1 fun e => row_ne hrow h1 (by decide) b e rfl
  have g2 : W.ownsRow 0 35 2 gv r.good.length (objCells r.good) := row_block hgd fun g hg hl => hO.block g hl fun e => rows_ne hgd hrow (by decide) g hg e
  refine ⟨fun i => S i ∨ (w.heap.size ≤ i ∧ i < W.heap.size), ⟨gv, v, g1.set 1 v, row_setb g2 g1 (by decide) _ _, ?_, .inl h4, fun m hm => .inl (h5 m hm), fun g hg => ?_, fun i hi => ?_⟩, fun i hi => ?_, (hO.mono (fun i hi => h6 i hi)).set (.inl h4) _⟩
  · have e : (r.writes ++ [q]).flatMap rcells = r.writes.flatMap rcells ++ rcells q := by simp
    simp only [List.length_append, List.length_cons, List.length_nil, e]
    exact row_setb hr g1 (by decide) _ _
  · rcases hv g hg with h | h
    · exact .inl (h6 g h)
    · exact .inr ⟨h, (hr.lt g hg).2⟩
  · rcases hi with hi | hi
    · have := h7 i hi; have := hO.size; simp [World.setCell]; omega
    · simp [World.setCell]; exact hi.2
  · exact hi.imp id fun h => h.1
/-- the row wv may have been appended to; nothing else of W0 has turned -/
def AppR (W0 : World) (wv : Value) (k : Nat) (xs : List Value) (W : World) : Prop := Only (fun i => wv.ownBlock = some i) W0 W ∧ W.ownsRow 0 117 3 wv k xs
theorem AppR.has {W0 W : World} {wv : Value} {k : Nat} {xs : List Value} (h : AppR W0 wv k xs W) {b : Nat} {cs : Array Value} {t : TypeId} (hb : Has W0 b cs t) (hne : ∀ g, wv.ownBlock = some g → g ≠ b) : Has W b cs t := h.1.has hb fun e => hne b e rfl
theorem AppR.alloc {W0 W : World} {wv : Value} {k : Nat} {xs : List Value} (h : AppR W0 wv k xs W) (o : Obj) : AppR W0 wv k xs (W.alloc o) := ⟨h.1.alloc o, h.2.alloc o⟩
theorem AfterR.trans {w w1 w2 : World} {S S1 : Nat → Prop} {b : Nat} {s2 : Rf} (hs : ∀ i, S1 i → S i ∨ w.heap.size ≤ i) (ho : Only S w w1) (h : AfterR w1 w2 S1 b s2) : AfterR w w2 S b s2 := by
  obtain ⟨S', h1, h2, h3⟩ := h
  refine ⟨S', h1, fun i hi => ?_, ho.trans h3 hs⟩
  rcases h2 i hi with h | h
  · exact hs i h
  · exact .inr (Nat.le_trans ho.size h)
theorem AfterR.then {w w1 w2 : World} {S : Nat → Prop} {b : Nat} {s1 s2 : Rf} (h : AfterR w w1 S b s1) (k : ∀ S', IsRf w1 S' b s1 → AfterR w1 w2 S' b s2) : AfterR w w2 S b s2 := by
  obtain ⟨S', h1, h2, h3⟩ := h
  exact AfterR.trans h2 h3 (k S' h1)
theorem AfterR.front {w w1 w2 : World} {S : Nat → Prop} {b : Nat} {s : Rf} (hb : Below w.heap.size w w1) (h : AfterR w1 w2 S b s) : AfterR w w2 S b s := AfterR.trans (fun _ h => .inl h) (Only.of_below hb) h
theorem AfterR.next {w w1 w2 : World} {S : Nat → Prop} {b : Nat} {s : Rf} (h : AfterR w w1 S b s) (hb : Below w1.heap.size w1 w2) : AfterR w w2 S b s := h.then fun _ h' => AfterR.of_below h' hb
/-- behind the writes one more, in line -/
theorem rf_append {w W : World} {S : Nat → Prop} {b : Nat} {r : Rf} (h : IsRf w S b r) {wv : Value} (hw : w.cell? ⟨b, 1, none⟩ = some wv) {v : Value} {q : Rw} (hO : Only (fun i => wv.ownBlock = some i) w W) (hr : W.ownsRow 0 117 3 v (r.writes.length + 1) (r.writes.flatMap rcells ++ rcells q)) (hv : ∀ g, v.ownBlock = some g → wv.ownBlock = some g ∨ w.heap.size ≤ g) : AfterR w (W.setCell ⟨b, 1, none⟩ v) S b { r with writes := r.writes ++ [q] } := by
  obtain ⟨gv, wv', h1, h2, h3, h4, h5, h6, h7⟩ := h
  have e : some wv' = some wv := by rw [← hw, h1.cell 1]; rfl
  cases e
  exact rf_writes h1 h2 h3 h4 h5 h6 h7 hO hr hv
/-- append, as an operation of the walk; what is new lies in the old block, or in one that is new -/
theorem wpList_app90 {ops : Array Oper} {rest : List Oper} {o : Oper} {a : Act} {w : World} {Q : Exit → Act → World → Prop} (hgd : o.guard = none) (s x : Operand)
    (ho : o.op = .call { callee := .builtin .append, args := #[s, x], argTypes := #[102, 102] }) (v : Value) (n : Nat) (xs : List Value) (hs : a.eval s = v) (hown : w.ownsRow 0 117 3 v n xs) (ad : Addr) (q : Rw) (hx : a.eval x = .slice (some ad) 1 1) (hnews : ∀ j u, (rcells q)[j]? = some u → w.cell? (ad.add j) = some u) (hb : n + 1 ≤ 100000000)
    (h : ∀ g cap w', w'.ownsRow 0 117 3 (.slice (some ⟨g, 0, none⟩) (n + 1) cap) (n + 1) (xs ++ rcells q) → w.grownBy w' v.ownBlock → (v.ownBlock = some g ∨ w.heap.size ≤ g) → wpList Tryz.prog ops Q rest (a.put o.dst (.slice (some ⟨g, 0, none⟩) (n + 1) cap)) w') : wpList Tryz.prog ops Q (o :: rest) a w := by
  obtain ⟨g, cap, w', r1, r2, r3, _, r5⟩ := run_app2 el90 w o.type 0 v n xs hown ad 1 1 (rcells q) (by decide) rfl hnews (rcells_one q) hb (Nat.zero_le _)
  refine wpList_plain hgd fun K hK => ?_
  unfold Oper.wp execOp
  simp only [ho, resolve, invoke, builtin, Sem.run_bind, Sem.run_pure, Result.andThen_ok, List.map_toArray, List.map_cons, List.map_nil, hs, hx, r1]
  exact hK _ _ (h g cap w' r2 r3 r5)
end Go.Proofs.YtgdiaflikfdnaaaGreat
