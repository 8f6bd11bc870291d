/- QuorumKeeps: who holds the manifest: what may be found; begin. -/
import Derived.Test.YtmpgfpmkmgebdaaGreatDoorL1
import Derived.Test.YtmpgfpmkmgebdaaGreatDoorP23
import Derived.Test.YtmpgfpmkmgebdaaGreatDoorTlF
namespace Go.Proofs.YtmpgfpmkmgebdaaGreatDoor
open Go.RowKit Go.Maps
open W
set_option linter.unusedVariables false
variable {w0 w w' : World} {b q m c : Nat} {V V' : Wd} {X : Nat → Prop} {bs : Bst} {op : Bool} {l : List ByteArray}
def hcells (b : Nat) (bs : Bst) (op : Bool) (mv : Value) : Array Value := #[.pointer (some ⟨b, 0, none⟩), .int .i64 bs.e, .int .i64 bs.g, .int .i64 bs.k, .int .i64 bs.n, .string bs.p, .bool op, mv]
/-- bodies that lie in a block -/
def Bod (w : World) (m : Nat) (l : List ByteArray) : Prop := ∃ cs, Has w m cs 9 ∧ ∀ (j : Nat) (x : ByteArray), l[j]? = some x → cs[j]? = some (.string x)
/-- who holds the manifest, beside a world -/
structure HS (w0 w : World) (b q m c : Nat) (X : Nat → Prop) (V : Wd) (bs : Bst) (op : Bool) (l : List ByteArray) : Prop where
  hq : Has w q (hcells b bs op (.slice (some ⟨m, 0, none⟩) l.length c)) 40
  bo : Bod w m l
  one : op = true → c = 1 ∧ ∃ x, l = [x] ∧ Has w m #[.string x] 9
  wt : WT w0 w b V (fun j => X j ∨ (j = q ∨ j = m))
  xq : ¬ X q
  xm : ¬ X m
  qm : m ≠ q
  zq : w0.heap.size ≤ q
  zm : w0.heap.size ≤ m
  len : l.length ≤ 2
theorem Bod.kept {T : Nat → Prop} (h : Bod w m l) (hk : Kpt T w w') (hT : T m) : Bod w' m l := by
  obtain ⟨cs, h1, h2⟩ := h
  exact ⟨cs, hk.has hT h1, h2⟩
/-- the world did something -/
theorem HS.did (h : HS w0 w b q m c X V bs op l) (hw : WT w0 w' b V' (fun j => X j ∨ (j = q ∨ j = m))) (hk : Kpt (fun j => X j ∨ (j = q ∨ j = m)) w w') : HS w0 w' b q m c X V' bs op l :=
  ⟨hk.has (.inr (.inl rfl)) h.hq, h.bo.kept hk (.inr (.inr rfl)), fun e => by
    obtain ⟨h1, x, h2, h3⟩ := h.one e
    exact ⟨h1, x, h2, hk.has (.inr (.inr rfl)) h3⟩, hw, h.xq, h.xm, h.qm, h.zq, h.zm, h.len⟩
theorem HS.below (h : HS w0 w b q m c X V bs op l) (hb : Below w.heap.size w w') : HS w0 w' b q m c X V bs op l := h.did (h.wt.below hb) (Kpt.below h.wt hb)
theorem HS.kX (h : HS w0 w b q m c X V bs op l) (hk : Kpt (fun j => X j ∨ (j = q ∨ j = m)) w w') : Kpt X w w' := hk.sub fun j hj => .inl hj
/-- something is written into its own block -/
theorem HS.wrote (h : HS w0 w b q m c X V bs op l) {bs' : Bst} {op' : Bool} {m' c' : Nat} {l' : List ByteArray} (ho : Only (fun j => j = q) w w') (hq : Has w' q (hcells b bs' op' (.slice (some ⟨m', 0, none⟩) l'.length c')) 40) (hw : WT w0 w b V (fun j => X j ∨ (j = q ∨ j = m'))) (hbo : Bod w m' l') (hone : op' = true → c' = 1 ∧ ∃ x, l' = [x] ∧ Has w m' #[.string x] 9) (hx : ¬ X m') (hmq : m' ≠ q) (hz : w0.heap.size ≤ m') (hl : l'.length ≤ 2) : HS w0 w' b q m' c' X V bs' op' l' ∧ Kpt X w w' := by
  obtain ⟨cs, b1, b2⟩ := hbo
  refine ⟨⟨hq, ⟨cs, ho.has b1 hmq, b2⟩, fun e => ?_, hw.list (g := q) (.inr (.inl rfl)) h.zq ho, h.xq, hx, hmq, h.zq, hz, hl⟩, ho.size, fun j hj => ho.block j (h.wt.lt j (.inl hj)) fun e => h.xq (e ▸ hj)⟩
  obtain ⟨h1, x, h2, h3⟩ := hone e
  exact ⟨h1, x, h2, ho.has h3 hmq⟩
/-- whether it is held open is written -/
theorem HS.shut (h : HS w0 w b q m c X V bs op l) : HS w0 (w.setCell ⟨q, 6, none⟩ (.bool false)) b q m c X V bs false l ∧ Kpt X w (w.setCell ⟨q, 6, none⟩ (.bool false)) :=
  h.wrote (Only.set (p := ⟨q, 6, none⟩) (Only.refl (fun j => j = q) w) (.inl rfl) _) (h.hq.set 6 _) h.wt h.bo (fun e => by cases e) h.xm h.qm h.zm h.len
theorem HS.cells (h : HS w0 w b q m c X V bs op l) : (w.cell? ⟨q, 0, none⟩ = some (.pointer (some ⟨b, 0, none⟩)) ∧ w.cell? ⟨q, 1, none⟩ = some (.int .i64 bs.e) ∧ w.cell? ⟨q, 2, none⟩ = some (.int .i64 bs.g) ∧ w.cell? ⟨q, 3, none⟩ = some (.int .i64 bs.k) ∧ w.cell? ⟨q, 4, none⟩ = some (.int .i64 bs.n) ∧ w.cell? ⟨q, 5, none⟩ = some (.string bs.p) ∧ w.cell? ⟨q, 6, none⟩ = some (.bool op) ∧ w.cell? ⟨q, 7, none⟩ = some (.slice (some ⟨m, 0, none⟩) l.length c)) ∧ w.frozen? ⟨q, 1, none⟩ = false ∧ w.frozen? ⟨q, 2, none⟩ = false ∧ w.frozen? ⟨q, 3, none⟩ = false ∧ w.frozen? ⟨q, 4, none⟩ = false ∧ w.frozen? ⟨q, 5, none⟩ = false ∧ w.frozen? ⟨q, 6, none⟩ = false ∧ w.frozen? ⟨q, 7, none⟩ = false :=
  ⟨⟨h.hq.cell 0, h.hq.cell 1, h.hq.cell 2, h.hq.cell 3, h.hq.cell 4, h.hq.cell 5, h.hq.cell 6, h.hq.cell 7⟩, h.hq.frozen 1, h.hq.frozen 2, h.hq.frozen 3, h.hq.frozen 4, h.hq.frozen 5, h.hq.frozen 6, h.hq.frozen 7⟩
/-- whether a body is among those -/
def inL (p : ByteArray) (l : List ByteArray) : Bool := l.any fun x => decide (x = p)
theorem inL_of {p : ByteArray} (h : p ∈ l) : inL p l = true := List.any_eq_true.2 ⟨p, h, by simp⟩
theorem inL_not {p : ByteArray} (h : ∀ x ∈ l, x ≠ p) : inL p l = false := by
  unfold inL
  rw [List.any_eq_false]
  intro x hx
  simpa using h x hx
set_option maxHeartbeats 4000000 in
set_option maxRecDepth 20000 in
theorem hhas_any (h : HS w0 w b q m c X V bs op l) (p : ByteArray) : Calls Tryz.prog 16 #[.pointer (some ⟨q, 0, none⟩), .string p] w fun e w' => e = .returned (.bool (inL p l)) ∧ w' = w := by
  obtain ⟨⟨c0, c1, c2, c3, c4, c5, c6, c7⟩, _⟩ := h.cells
  obtain ⟨cs, hb1, hb2⟩ := h.bo
  have HB : Hid (∀ (j : Nat) (x : ByteArray), l[j]? = some x → w.cell? ⟨m, j, none⟩ = some (.string x)) := hid fun j x hj => by
    rw [hb1.cell j]
    exact hb2 j x hj
  have hlen := h.len
  obtain ⟨L, hL⟩ : ∃ L, L = l.length := ⟨_, rfl⟩
  have HL := hid hL
  rw [← hL] at c7 hlen
  clear hb1 hb2 h hL c0 c1 c2 c3 c4 c5 c6
  go_enter Tryz.func16, Tryz.ntmps16
  go_wp2_with fail
  go_loopg [5] L (fun gk s5 wx => ∃ k : Nat, k + gk = L ∧ s5 = .int .i64 (k : Int) ∧ wx = w ∧ Hid (∀ x ∈ l.take k, x ≠ p))
  case atStart => exact ⟨0, by omega, rfl, rfl, hid fun x hx => by simp at hx⟩
  case round =>
    obtain ⟨k, hk, rfl, rfl, HNO⟩ := hrel
    cases gk with
    | zero =>
      have q1 : ¬ ((k : Int) < (L : Int)) := by omega
      have HE : Hid (inL p l = false) := hid (by
        have := HNO.out
        rw [List.take_of_length_le (by have := HL.out; omega)] at this
        exact inL_not this)
      clear HNO
      go_wp2_with fail
      go_ret
      exact ⟨by rw [HE.out]; rfl, rfl⟩
    | succ g1 =>
      have q1 : (k : Int) < (L : Int) := by omega
      have wk : IntKind.i64.wrap ((k : Int) + 1) = ((k + 1 : Nat) : Int) := wrapN (b := 1) (by omega)
      obtain ⟨x, hx⟩ : ∃ x, l[k]? = some x := ⟨_, List.getElem?_eq_getElem (by have := HL.out; omega)⟩
      have d0 := HB.out k x hx
      by_cases hxp : x = p
      · have q2 : (x.toList == p.toList) = true := by rw [hxp]; simp
        have HE : Hid (inL p l = true) := hid (inL_of (by rw [← hxp]; exact List.mem_of_getElem? hx))
        clear hx hxp HNO
        go_wp2_with fail
        go_ret
        exact ⟨by rw [HE.out]; rfl, rfl⟩
      · have q2 : (x.toList == p.toList) = false := by rw [str_eq, decide_eq_false_iff_not]; exact hxp
        have HE : Hid (∀ y ∈ l.take (k + 1), y ≠ p) := hid fun y hy => by
          rw [List.take_add_one, hx] at hy
          rcases List.mem_append.1 hy with hy | hy
          · exact HNO.out y hy
          · simp at hy
            rw [hy]
            exact hxp
        clear hx hxp HNO
        go_wp2_with fail
        go_roundg g1
        case measure => omega
        case rel => exact ⟨k + 1, by omega, by first | rfl | simp, rfl, HE⟩
/-- a block beside the world that was made since, while the holder's was written -/
theorem WT.grew {T : Nat → Prop} {g y : Nat} (h : WT w0 w b V T) (hg : T g) (hn : w0.heap.size ≤ g) (ho : Only (fun j => j = g) w w') (hy : w.heap.size ≤ y ∧ y < w'.heap.size) : WT w0 w' b V (fun j => T j ∨ j = y) := by
  have h' := h.list hg hn ho
  obtain ⟨S, g', h1, h2, h3, h4⟩ := h
  refine ⟨S, g', h1.only ho fun i hi e => (h4 g hg).1 (e ▸ hi), h2, h3.trans (ho.below h3.size fun i hi => by rw [hi]; exact hn), fun i hi => ?_⟩
  rcases hi with hi | hi
  · exact ⟨(h4 i hi).1, Nat.lt_of_lt_of_le (h4 i hi).2 ho.size⟩
  · rw [hi]
    exact ⟨fun hS => by have := h1.bound y hS; omega, hy.2⟩
/-- an operation of a drawn part that makes memory -/
theorem sl_w {Q : Exit → Act → World → Prop} {ops : Array Oper} {C' : World → Prop} {F : Nat → Value → World → Prop} {o : Oper} {a : Act} {w w' : World} {X : Prop} (d : Nat) (v : Value) (hd : o.dst = some d) (hw : Region.wanted o (yielded ops a.tmps) = true) (hr : (execOp a.eval o).run Tryz.prog w = .ok (.value v) w') (hC : C' w') (hF : F d v w') (hk : ∀ d v, F d v w → F d v w') :
    if Region.wanted o (yielded ops a.tmps) = true then o.wp Tryz.prog a w (fun a'' w'' => ∃ v, a'' = a.put o.dst v ∧ C' w'' ∧ (∀ d v, o.dst ≠ some d → F d v w → F d v w'') ∧ ∀ d, o.dst = some d → F d v w'') Q else X := by
  rw [if_pos hw]
  unfold Oper.wp
  rw [hr]
  exact ⟨v, rfl, hC, fun _ _ _ h => hk _ _ h, fun d' h' => by rw [hd] at h'; cases h'; exact hF⟩
/-- one that stores -/
theorem sl_s {Q : Exit → Act → World → Prop} {ops : Array Oper} {C' : World → Prop} {F : Nat → Value → World → Prop} {o : Oper} {a : Act} {w w' : World} {X : Prop} (hd : o.dst = none) (hw : Region.wanted o (yielded ops a.tmps) = true) (hr : (execOp a.eval o).run Tryz.prog w = .ok .skip w') (hC : C' w') (hk : ∀ d v, F d v w → F d v w') :
    if Region.wanted o (yielded ops a.tmps) = true then o.wp Tryz.prog a w (fun a'' w'' => ∃ v, a'' = a.put o.dst v ∧ C' w'' ∧ (∀ d v, o.dst ≠ some d → F d v w → F d v w'') ∧ ∀ d, o.dst = some d → F d v w'') Q else X := by
  rw [if_pos hw]
  unfold Oper.wp
  rw [hr]
  exact ⟨undef, by rw [hd], hC, fun _ _ _ h => hk _ _ h, fun d' h' => by rw [hd] at h'; cases h'⟩
def bgF (q x z : Nat) (r : Bst) (s : Nat) (v : Value) (W : World) : Prop := match s with
  | 32 => v = .pointer (some ⟨q, 0, none⟩) | 33 => v = .pointer (some ⟨q, 0, none⟩) | 34 => v = .pointer (some ⟨q, 0, none⟩) | 35 => v = .agg (bV r).toArray | 36 => v = .pointer (some ⟨x, 4, none⟩) | 37 => v = .string r.p
  | 38 => ∃ y, v = .slice (some ⟨y, 0, none⟩) 1 1 ∧ Has W y #[.string r.p] 9 ∧ z ≤ y
  | 39 => v = .pointer (some ⟨q, 0, none⟩) | 40 => v = .pointer (some ⟨q, 1, none⟩) | 41 => v = .pointer (some ⟨q, 0, none⟩) | 42 => v = .pointer (some ⟨q, 6, none⟩)
  | _ => True
theorem bgF_below {q x z : Nat} {r : Bst} {s : Nat} {v : Value} {W W' : World} (h : bgF q x z r s v W) (hb : Below W.heap.size W W') : bgF q x z r s v W' := by
  unfold bgF at h ⊢
  split at h <;> first | exact h | skip
  obtain ⟨y, h1, h2, h3⟩ := h
  exact ⟨y, h1, h2.below hb h2.lt, h3⟩
theorem bgF_only {q x z : Nat} {r : Bst} {s : Nat} {v : Value} {W W' : World} (hqz : q < z) (h : bgF q x z r s v W) (hb : Only (fun j => j = q) W W') : bgF q x z r s v W' := by
  unfold bgF at h ⊢
  split at h <;> first | exact h | skip
  obtain ⟨y, h1, h2, h3⟩ := h
  exact ⟨y, h1, hb.has h2 (by omega), h3⟩
theorem rn_f40_1 {ev : Operand → Value} {o : Oper} {w : World} {x : Operand} {g : Nat} (ho : o.op = .fieldAddr 40 x 1) (hx : ev x = .pointer (some ⟨g, 0, none⟩)) : (execOp ev o).run Tryz.prog w = .ok (.value (.pointer (some ⟨g, 1, none⟩))) w := by
  simp [execOp, ho, hx, go_sem]
theorem rn_f40_2 {ev : Operand → Value} {o : Oper} {w : World} {x : Operand} {g : Nat} (ho : o.op = .fieldAddr 40 x 2) (hx : ev x = .pointer (some ⟨g, 0, none⟩)) : (execOp ev o).run Tryz.prog w = .ok (.value (.pointer (some ⟨g, 6, none⟩))) w := by
  simp [execOp, ho, hx, go_sem]
/-- a manifest is stored into the holder -/
theorem rn_hst34 {ev : Operand → Value} {o : Oper} {w : World} {x y : Operand} {q b : Nat} {r bs : Bst} {op : Bool} {mv : Value} (ho : o.op = .store 34 x y) (hx : ev x = .pointer (some ⟨q, 1, none⟩)) (hy : ev y = .agg (bV r).toArray) (hh : Has w q (hcells b bs op mv) 40) : ∃ w', (execOp ev o).run Tryz.prog w = .ok .skip w' ∧ Has w' q (hcells b r op mv) 40 ∧ Only (fun j => j = q) w w' := by
  obtain ⟨re, rg, rk, rn, rp⟩ := r
  obtain ⟨se, sg, sk, sn, sp⟩ := bs
  have h0 : Has w q #[.pointer (some ⟨b, 0, none⟩), .int .i64 se, .int .i64 sg, .int .i64 sk, .int .i64 sn, .string sp, .bool op, mv] 40 := hh
  have h1 := h0.set 1 (.int .i64 re)
  have h2 := h1.set 2 (.int .i64 rg)
  have h3 := h2.set 3 (.int .i64 rk)
  have h4 := h3.set 4 (.int .i64 rn)
  have h5 := h4.set 5 (.string rp)
  have c1 := h0.cell 1
  have c2 := h1.cell 2
  have c3 := h2.cell 3
  have c4 := h3.cell 4
  have c5 := h4.cell 5
  have f1 := h0.frozen 1
  have f2 := h1.frozen 2
  have f3 := h2.frozen 3
  have f4 := h3.frozen 4
  have f5 := h4.frozen 5
  refine ⟨_, ?_, h5, ?_⟩
  · unfold bV at hy
    simp only at hy
    simp at c1 c2 c3 c4 c5
    simp [execOp, ho, hx, hy, go_sem, c1, c2, c3, c4, c5, f1, f2, f3, f4, f5]
  · exact Only.set (p := ⟨q, 5, none⟩) (Only.set (p := ⟨q, 4, none⟩) (Only.set (p := ⟨q, 3, none⟩) (Only.set (p := ⟨q, 2, none⟩) (Only.set (p := ⟨q, 1, none⟩) (Only.refl (fun i => i = q) w) (.inl rfl) _) (.inl rfl) _) (.inl rfl) _) (.inl rfl) _) (.inl rfl) _
theorem rn_hst4 {ev : Operand → Value} {o : Oper} {w : World} {x : Operand} {q b : Nat} {bs : Bst} {op v : Bool} {mv : Value} (ho : o.op = .store 4 x (.const (.bool v))) (hc : ev (.const (.bool v)) = .bool v) (hx : ev x = .pointer (some ⟨q, 6, none⟩)) (hh : Has w q (hcells b bs op mv) 40) : (execOp ev o).run Tryz.prog w = .ok .skip (w.setCell ⟨q, 6, none⟩ (.bool v)) ∧ Has (w.setCell ⟨q, 6, none⟩ (.bool v)) q (hcells b bs v mv) 40 ∧ Only (fun j => j = q) w (w.setCell ⟨q, 6, none⟩ (.bool v)) := by
  have c6 : w.cell? ⟨q, 6, none⟩ = some (.bool op) := hh.cell 6
  have f6 := hh.frozen 6
  refine ⟨?_, hh.set 6 _, Only.set (p := ⟨q, 6, none⟩) (Only.refl (fun i => i = q) w) (.inl rfl) _⟩
  simp [execOp, ho, hx, hc, go_sem, c6, f6]
theorem sl_hst34 {Q : Exit → Act → World → Prop} {ops : Array Oper} {C' : World → Prop} {F : Nat → Value → World → Prop} {o : Oper} {a : Act} {w : World} {Z : Prop} {x y : Operand} {q b : Nat} {r bs : Bst} {op : Bool} {mv : Value} (ho : o.op = .store 34 x y) (hd : o.dst = none) (hw : Region.wanted o (yielded ops a.tmps) = true) (hx : a.eval x = .pointer (some ⟨q, 1, none⟩)) (hy : a.eval y = .agg (bV r).toArray) (hh : Has w q (hcells b bs op mv) 40) (hC : ∀ w', Has w' q (hcells b r op mv) 40 → Only (fun j => j = q) w w' → C' w') (hk : ∀ w', Only (fun j => j = q) w w' → ∀ d v, F d v w → F d v w') :
    if Region.wanted o (yielded ops a.tmps) = true then o.wp Tryz.prog a w (fun a'' w'' => ∃ v, a'' = a.put o.dst v ∧ C' w'' ∧ (∀ d v, o.dst ≠ some d → F d v w → F d v w'') ∧ ∀ d, o.dst = some d → F d v w'') Q else Z := by
  obtain ⟨w', h1, h2, h3⟩ := rn_hst34 ho hx hy hh
  exact sl_s hd hw h1 (hC w' h2 h3) (hk w' h3)
theorem sl_hst4 {Q : Exit → Act → World → Prop} {ops : Array Oper} {C' : World → Prop} {F : Nat → Value → World → Prop} {o : Oper} {a : Act} {w : World} {Z : Prop} {x : Operand} {q b : Nat} {bs : Bst} {op v : Bool} {mv : Value} (ho : o.op = .store 4 x (.const (.bool v))) (hd : o.dst = none) (hw : Region.wanted o (yielded ops a.tmps) = true) (hx : a.eval x = .pointer (some ⟨q, 6, none⟩)) (hh : Has w q (hcells b bs op mv) 40) (hC : ∀ w', Has w' q (hcells b bs v mv) 40 → Only (fun j => j = q) w w' → C' w') (hk : ∀ w', Only (fun j => j = q) w w' → ∀ d v, F d v w → F d v w') :
    if Region.wanted o (yielded ops a.tmps) = true then o.wp Tryz.prog a w (fun a'' w'' => ∃ v, a'' = a.put o.dst v ∧ C' w'' ∧ (∀ d v, o.dst ≠ some d → F d v w → F d v w'') ∧ ∀ d, o.dst = some d → F d v w'') Q else Z := by
  obtain ⟨h1, h2, h3⟩ := rn_hst4 ho rfl hx hh
  exact sl_s hd hw h1 (hC _ h2 h3) (hk _ h3)
theorem rn_f34_2 {ev : Operand → Value} {o : Oper} {w : World} {x : Operand} {g : Nat} (ho : o.op = .fieldAddr 34 x 2) (hx : ev x = .pointer (some ⟨g, 0, none⟩)) : (execOp ev o).run Tryz.prog w = .ok (.value (.pointer (some ⟨g, 4, none⟩))) w := by
  simp [execOp, ho, hx, go_sem]
theorem rn_bs38 {ev : Operand → Value} {o : Oper} {w : World} {x : Operand} {p : ByteArray} (ho : o.op = .buildSlice 38 1 #[(0, x)]) (hx : ev x = .string p) : (execOp ev o).run Tryz.prog w = .ok (.value (.slice (some ⟨w.heap.size, 0, none⟩) 1 1)) (w.alloc (.cells #[.string p] 9)) := by
  simp [execOp, ho, hx, go_sem]
set_option maxHeartbeats 16000000 in
set_option maxRecDepth 20000 in
theorem begin_any (h : HS w0 w b q m c X V bs op l) (hl : F.Lay w0) {M n : Nat} (hok : Ok M n V) (hn : n ≤ 12) (hM : M ≤ 700000) (hr : (openW V).1 = 56 ∨ ((openW V).1 = 0 ∧ (openW V).2.1.p ∈ l)) (Q : Ending → World → Prop)
    (hqC : (openW V).1 = 56 → ∀ w', HS w0 w' b q m c X (openW V).2.2 bs false l → Kpt X w w' → Ok (M + 6 * n) n (openW V).2.2 → Q (.returned (.bool (openW V).2.2.dark)) w')
    (hqO : (openW V).1 = 0 → ∀ w' m', HS w0 w' b q m' 1 X (openW V).2.2 (openW V).2.1 true [(openW V).2.1.p] → Kpt X w w' → Ok (M + 6 * n) n (openW V).2.2 → Q (.returned (.bool true)) w') : Calls Tryz.prog 18 #[.pointer (some ⟨q, 0, none⟩)] w Q := by
  have HOP := open_any h.wt hl hok hn hM
  obtain ⟨⟨c0, _⟩, _⟩ := h.cells
  have HH := hid h
  have HQC := hid hqC
  have HQO := hid hqO
  have HR := hid hr
  clear h hl hok hqC hqO hr
  generalize openW V = R at *
  obtain ⟨e, r, V'⟩ := R
  obtain ⟨re, rg, rk, rn, rp⟩ := r
  unfold bV ptr er at HOP
  simp only at HOP HQC HQO HR
  go_enter Tryz.func18, Tryz.ntmps18
  go_wp2_with fail
  refine HOP.mono ?_
  clear HOP
  rintro _ w1 ⟨rfl, a1, a2, a3⟩
  have h1 := HH.out.did a1 a2
  have HK1 := hid (HH.out.kX a2)
  have HOK := hid a3
  obtain ⟨w2, hw2⟩ : ∃ w2, w2 = w1.alloc (.cells #[.int .i64 re, .int .i64 rg, .int .i64 rk, .int .i64 rn, .string rp] 34) := ⟨_, rfl⟩
  have hb2 : Below w1.heap.size w1 w2 := by rw [hw2]; exact boxed _ _
  have hx2 : Has w2 w1.heap.size (bV ⟨re, rg, rk, rn, rp⟩).toArray 34 := by rw [hw2]; exact Has.new _ _ _ _ rfl
  have h2 := h1.below hb2
  have HK2 := hid (HK1.out.trans ((Kpt.below h1.wt hb2).sub (T' := X) fun j hj => .inl hj))
  have HQ1 : Hid (q < w1.heap.size ∧ w0.heap.size ≤ w1.heap.size) := hid ⟨h1.hq.lt, h1.wt.base.size⟩
  have HX1 : Hid (∀ j, X j → j < w1.heap.size) := hid fun j hj => h1.wt.lt j (.inl hj)
  obtain ⟨x, hx⟩ : ∃ x, x = w1.heap.size := ⟨_, rfl⟩
  rw [← hx] at hx2 HQ1 HX1
  have H2 := hid h2
  have HX2 := hid hx2
  clear a1 a2 a3 h1 hb2 h2 hx2 HK1 c0
  obtain ⟨⟨c0, c1, c2, c3, c4, c5, c6, c7⟩, f1, f2, f3, f4, f5, f6, f7⟩ := H2.out.cells
  rcases HR.out with e56 | ⟨e0, hmem⟩
  · subst e56
    have HS3 := hid H2.out.shut
    rw [hw2] at c0 c6 f6
    clear c1 c2 c3 c4 c5 c7 f1 f2 f3 f4 f5 f7 HX2
    have HS4 := HS3
    rw [hw2] at HS4
    have HDK := HS4.out.1.wt.dark
    unfold ptr at HDK
    go_wp2_with fail
    refine HDK.mono ?_
    rintro _ w4 ⟨rfl, rfl⟩
    clear HDK
    go_wp2_with fail
    exact HQC.out trivial _ HS4.out.1 (by
      have := HK2.out.trans HS3.out.2
      rw [hw2] at this
      exact this) HOK.out
  · subst e0
    have HHA := hhas_any H2.out rp
    rw [inL_of hmem] at HHA
    have y4 : w2.cell? ⟨x, 4, none⟩ = some (.string rp) := HX2.out.cell 4
    have lx := HX2.out.lt
    rw [hw2, hx] at y4
    go_wp2_with fail
    rw [← hw2]
    rw [← hw2, ← hx] at y4
    refine HHA.mono ?_
    rintro _ w4 ⟨rfl, rfl⟩
    clear HHA hw2
    go_wp2_with fail
    rw [← hx]
    have hqz : q < w4.heap.size := H2.out.hq.lt
    have hxq : x ≠ q := by have := HQ1.out; omega
    obtain ⟨mv, hmv⟩ : ∃ mv : Value, mv = .slice (some ⟨m, 0, none⟩) l.length c := ⟨_, rfl⟩
    have hh4 : Has w4 q (hcells b bs op mv) 40 := by rw [hmv]; exact H2.out.hq
    obtain ⟨r, hr⟩ : ∃ r : Bst, r = ⟨re, rg, rk, rn, rp⟩ := ⟨_, rfl⟩
    rw [← hr] at HX2
    have hrp : r.p = rp := by rw [hr]
    rw [← hrp] at y4
    refine Tl.wp_mixL_lit (by kernel_rfl) 13 [32, 33, 34, 35, 36, 37, 38, 39, 40, 41, 42] 45 rfl (by kernel_rfl) (Tl.Two 9 12 (fun W => Has W q (hcells b bs op mv) 40 ∧ Only (fun j => j = q) w4 W) (fun W => Has W q (hcells b r op mv) 40 ∧ Only (fun j => j = q) w4 W) (fun W => Has W q (hcells b r true mv) 40 ∧ Only (fun j => j = q) w4 W)) (bgF q x w4.heap.size r) ⟨hh4, (Only.refl _ _).drew⟩
      ⟨fun k a' W' hsz hl hcl hed hC hF => ?_, fun k a' W' hsz hl hcl hed hC hF => ?_, fun k a' W' hsz hl hcl hed hC hF => ?_, fun k a' W' hsz hl hcl hed hC hF => ?_, fun k a' W' hsz hl hcl hed hC hF => ?_, fun k a' W' hsz hl hcl hed hC hF => ?_, fun k a' W' hsz hl hcl hed hC hF => ?_, fun k a' W' hsz hl hcl hed hC hF => ?_, fun k a' W' hsz hl hcl hed hC hF => ?_, fun k a' W' hsz hl hcl hed hC hF => ?_, fun k a' W' hsz hl hcl hed hC hF => ?_, fun k a' W' hsz hl hcl hed hC hF => ?_, fun k a' W' hsz hl hcl hed hC hF => ?_, trivial⟩ ?_
    · exact Tl.sl_v 32 _ rfl (Tl.wanted_none rfl) (hC.other (by decide) (by decide)) rfl (rn_move rfl ((hF 0 (by decide +kernel)).2 (by decide)))
    · exact Tl.sl_v 33 _ rfl (Tl.wanted_none rfl) (hC.other (by decide) (by decide)) rfl (rn_move rfl ((hF 0 (by decide +kernel)).2 (by decide)))
    · exact Tl.sl_v 34 _ rfl (Tl.wanted_none rfl) (hC.other (by decide) (by decide)) rfl (rn_move rfl ((hF 0 (by decide +kernel)).2 (by decide)))
    · have ho := hC.any (Y := fun W => Only (fun j => j = q) w4 W) (fun h => h.2) (fun h => h.2) (fun h => h.2)
      exact Tl.sl_v 35 _ rfl (Tl.wanted_none rfl) (hC.other (by decide) (by decide)) rfl (rn_load34 rfl ((hF 3 (by decide +kernel)).2 (by decide)) (ho.has HX2.out hxq))
    · exact Tl.sl_v 36 _ rfl (Tl.wanted_none rfl) (hC.other (by decide) (by decide)) rfl (rn_f34_2 rfl ((hF 3 (by decide +kernel)).2 (by decide)))
    · have ho := hC.any (Y := fun W => Only (fun j => j = q) w4 W) (fun h => h.2) (fun h => h.2) (fun h => h.2)
      exact Tl.sl_v 37 _ rfl (Tl.wanted_none rfl) (hC.other (by decide) (by decide)) rfl (rn_load9 rfl ((hF 36 (by decide +kernel)).1 (by decide)) ((ho.has HX2.out hxq).cell 4))
    · have ho := hC.any (Y := fun W => Only (fun j => j = q) w4 W) (fun h => h.2) (fun h => h.2) (fun h => h.2)
      have hC' := hC.other (i := 6) (by decide) (by decide)
      refine sl_w 38 _ rfl (Tl.wanted_none rfl) (rn_bs38 rfl ((hF 37 (by decide +kernel)).1 (by decide))) ?_ ⟨_, rfl, Has.new _ _ _ _ rfl, ho.size⟩ (fun d v h => bgF_below h (boxed W' _))
      unfold Tl.Two at hC' ⊢
      split at hC'
      · rename_i e1
        rw [if_pos e1]
        split at hC'
        · rename_i e2
          rw [if_pos e2]
          exact ⟨hC'.1.alloc _, hC'.2.alloc _⟩
        · rename_i e2
          rw [if_neg e2]
          exact ⟨hC'.1.alloc _, hC'.2.alloc _⟩
      · rename_i e1
        rw [if_neg e1]
        exact ⟨hC'.1.alloc _, hC'.2.alloc _⟩
    · exact Tl.sl_v 39 _ rfl (Tl.wanted_none rfl) (hC.other (by decide) (by decide)) rfl (rn_nilCheck rfl ((hF 32 (by decide +kernel)).1 (by decide)))
    · exact Tl.sl_v 40 _ rfl (Tl.wanted_none rfl) (hC.other (by decide) (by decide)) rfl (rn_f40_1 rfl ((hF 39 (by decide +kernel)).1 (by decide)))
    · have hX := hC.first hl
      exact sl_hst34 rfl rfl (Tl.wanted_none rfl) ((hF 40 (by decide +kernel)).1 (by decide)) ((hF 35 (by decide +kernel)).1 (by decide)) hX.1 (fun w' e2 e3 => Tl.Two.did (by decide) hcl (by kernel_rfl) hl (by rw [hsz]; decide) ⟨e2, hX.2.trans e3 fun i h => .inl h⟩) (fun w' e3 d v h => bgF_only hqz h e3)
    · exact Tl.sl_v 41 _ rfl (Tl.wanted_none rfl) (hC.other (by decide) (by decide)) rfl (rn_nilCheck rfl ((hF 33 (by decide +kernel)).1 (by decide)))
    · exact Tl.sl_v 42 _ rfl (Tl.wanted_none rfl) (hC.other (by decide) (by decide)) rfl (rn_f40_2 rfl ((hF 41 (by decide +kernel)).1 (by decide)))
    · have hX := hC.second (hed 9 (by kernel_rfl)) hl
      exact sl_hst4 rfl rfl (Tl.wanted_none rfl) ((hF 42 (by decide +kernel)).1 (by decide)) hX.1 (fun w' e2 e3 => Tl.Two.both (by decide) (hed 9 (by kernel_rfl)) (by rw [hsz]; decide) ⟨e2, hX.2.trans e3 fun i h => .inl h⟩) (fun w' e3 d v h => bgF_only hqz h e3)
    intro k v w5 hk hC hv
    obtain ⟨hh5, ho5⟩ := hC.last (hk 9 (by decide)) (hk 12 (by decide))
    have v34 : v 34 = .pointer (some ⟨q, 0, none⟩) := hv 34 (by decide)
    obtain ⟨y, v38, hy, hyz⟩ := (show ∃ y, v 38 = .slice (some ⟨y, 0, none⟩) 1 1 ∧ Has w5 y #[.string r.p] 9 ∧ w4.heap.size ≤ y from hv 38 (by decide))
    have HK5 : Hid (Kpt X w w5) := hid (HK2.out.trans ⟨ho5.size, fun j hj => ho5.block j (H2.out.wt.lt j (.inl hj)) fun e => H2.out.xq (e ▸ hj)⟩)
    have hw5 : WT w0 w5 b V' (fun j => X j ∨ (j = q ∨ j = y)) := (H2.out.wt.grew (.inr (.inl rfl)) H2.out.zq ho5 ⟨hyz, hy.lt⟩).sub fun j hj => by
      rcases hj with hj | hj | hj
      · exact .inl (.inl hj)
      · exact .inl (.inr (.inl hj))
      · exact .inr hj
    have hz4 := H2.out.wt.base.size
    have hzq := H2.out.zq
    have hxq0 := H2.out.xq
    have ho6 : Only (fun j => j = q) w5 (w5.setCell ⟨q, 7, none⟩ (.slice (some ⟨y, 0, none⟩) 1 1)) := Only.set (p := ⟨q, 7, none⟩) (Only.refl (fun j => j = q) w5) (.inl rfl) _
    have HFI : Hid (HS w0 (w5.setCell ⟨q, 7, none⟩ (.slice (some ⟨y, 0, none⟩) 1 1)) b q y 1 X V' ⟨re, rg, rk, rn, rp⟩ true [rp] ∧ Kpt X w5 (w5.setCell ⟨q, 7, none⟩ (.slice (some ⟨y, 0, none⟩) 1 1))) := hid (by
      have hXy : ¬ X y := fun hj => by have := HX1.out y hj; omega
      have hy' : Has w5 y #[.string rp] 9 := by rw [← hrp]; exact hy
      refine ⟨⟨by rw [hr] at hh5; exact hh5.set 7 _, ⟨_, ho6.has hy' (by omega), fun j z hj => ?_⟩, fun _ => ⟨rfl, rp, rfl, ho6.has hy' (by omega)⟩, hw5.list (g := q) (.inr (.inl rfl)) hzq ho6, hxq0, hXy, by omega, hzq, by omega, Nat.le_succ 1⟩, ho6.size, fun j hj => ho6.block j (hw5.lt j (.inl hj)) fun e => hxq0 (e ▸ hj)⟩
      cases j with
      | zero => simp at hj; subst hj; rfl
      | succ j => simp at hj)
    have d7 : w5.cell? ⟨q, 7, none⟩ = some mv := hh5.cell 7
    have g7 := hh5.frozen 7
    clear hv hk hC hw5 ho5 ho6 hh5 hh4 hy hyz c0 c1 c2 c3 c4 c5 c6 c7 f1 f2 f3 f4 f5 f6 f7 y4 lx hz4 hzq hxq0 hqz hmv hr hrp
    simp only [Tl.fill, List.drop_succ_cons, List.drop_zero]
    simp only [Act.put, List.setIfInBounds_toArray, List.set_cons_succ, List.set_cons_zero, v34, v38]
    clear v34 v38
    go_wp2_with fail
    exact HQO.out trivial _ y HFI.out.1 (HK5.out.trans HFI.out.2) HOK.out
end Go.Proofs.YtmpgfpmkmgebdaaGreatDoor
