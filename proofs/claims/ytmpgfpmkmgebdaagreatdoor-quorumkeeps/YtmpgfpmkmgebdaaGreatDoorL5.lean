/- QuorumKeeps: who holds the manifest writes. -/
import Derived.Test.YtmpgfpmkmgebdaaGreatDoorL4
namespace Go.Proofs.YtmpgfpmkmgebdaaGreatDoor
open Go.RowKit Go.Maps
open W
set_option linter.unusedVariables false
variable {w0 w w' : World} {b q m c : Nat} {V V' : Wd} {X : Nat → Prop} {bs : Bst} {op : Bool} {l : List ByteArray}
/-- one call in a drawn part: what stands before and behind it -/
def One (c : Nat) (A B : World → Prop) (l : Array Bool) (W : World) : Prop := if l.getD c false = true then B W else A W
theorem set_other (l : Array Bool) {i j : Nat} (h : i ≠ j) : (l.setIfInBounds i true).getD j false = l.getD j false := by simp [Array.getD_eq_getD_getElem?, Array.getElem?_setIfInBounds_ne h]
theorem set_same' (l : Array Bool) {i : Nat} (h : i < l.size) : (l.setIfInBounds i true).getD i false = true := by simp [Array.getD_eq_getD_getElem?, h]
theorem One.other {c i : Nat} {A B : World → Prop} {l : Array Bool} {W : World} (h : One c A B l W) (hi : i ≠ c) : One c A B (l.setIfInBounds i true) W := by
  unfold One at h ⊢
  rw [set_other l hi]
  exact h
theorem One.any {c : Nat} {A B Y : World → Prop} {l : Array Bool} {W : World} (h : One c A B l W) (h0 : A W → Y W) (h1 : B W → Y W) : Y W := by
  unfold One at h
  split at h
  · exact h1 h
  · exact h0 h
theorem One.grow {c : Nat} {A B : World → Prop} {l : Array Bool} {W W' : World} (h : One c A B l W) (h0 : A W → A W') (h1 : B W → B W') : One c A B l W' := by
  unfold One at h ⊢
  split at h
  · rename_i e
    rw [if_pos e]
    exact h1 h
  · rename_i e
    rw [if_neg e]
    exact h0 h
theorem One.first {c : Nat} {A B : World → Prop} {l : Array Bool} {W : World} (h : One c A B l W) (hl : l.getD c false = false) : A W := by
  unfold One at h
  rw [if_neg (by rw [hl]; decide)] at h
  exact h
theorem One.last {c : Nat} {A B : World → Prop} {l : Array Bool} {W : World} (h : One c A B l W) (hl : l.getD c false = true) : B W := by
  unfold One at h
  rw [if_pos hl] at h
  exact h
theorem One.did {c : Nat} {A B : World → Prop} {l : Array Bool} {W : World} (hs : c < l.size) (h : B W) : One c A B (l.setIfInBounds c true) W := by
  unfold One
  rw [if_pos (set_same' l hs)]
  exact h
def hwF (b q z : Nat) (bs : Bst) (p : ByteArray) (r : Bst) (e : Int) (Y : Nat → World → Prop) (l : Array Bool) (s : Nat) (v : Value) (W : World) : Prop := match s with
  | 8 => v = .pointer (some ⟨q, 0, none⟩) | 9 => v = .pointer (some ⟨q, 0, none⟩) | 10 => v = .pointer (some ⟨q, 0, none⟩) | 11 => v = .pointer (some ⟨b, 0, none⟩)
  | 12 => v = .pointer (some ⟨q, 0, none⟩) | 13 => v = .pointer (some ⟨q, 0, none⟩) | 14 => v = .pointer (some ⟨q, 1, none⟩) | 15 => v = .agg (bV bs).toArray | 16 => v = .string p
  | 17 => v = .tuple #[.agg (bV r).toArray, .int .i64 e] | 7 => v = .tuple #[.agg (bV r).toArray, .int .i64 e] | 18 => v = .agg (bV r).toArray | 19 => v = .int .i64 e
  | 5 => ∃ x, v = .pointer (some ⟨x, 0, none⟩) ∧ Has W x (bV (if l.getD 14 false = true then r else zB)).toArray 34 ∧ z ≤ x ∧ (l.getD 9 false = true → Y x W)
  | _ => True
theorem hwF_go {b q z : Nat} {bs : Bst} {p : ByteArray} {r : Bst} {e : Int} {Y : Nat → World → Prop} {l l' : Array Bool} {s : Nat} {v : Value} {W W' : World} (h : hwF b q z bs p r e Y l s v W) (hl : l'.getD 9 false = l.getD 9 false ∧ l'.getD 14 false = l.getD 14 false) (hb : Below W.heap.size W W') (hY : ∀ x, Y x W → Y x W') : hwF b q z bs p r e Y l' s v W' := by
  unfold hwF at h ⊢
  split at h <;> first | exact h | skip
  obtain ⟨x, h1, h2, h3, h4⟩ := h
  exact ⟨x, h1, by rw [hl.2]; exact h2.below hb h2.lt, h3, fun e => hY x (h4 (hl.1 ▸ e))⟩
theorem hwF_call {b q z : Nat} {bs : Bst} {p : ByteArray} {r : Bst} {e : Int} {Y : Nat → World → Prop} {l l' : Array Bool} {s : Nat} {v : Value} {W W' : World} (h : hwF b q z bs p r e Y l s v W) (hl : l'.getD 14 false = l.getD 14 false) (hk : ∀ x, z ≤ x → x < W.heap.size → (∀ cs, Has W x cs 34 → Has W' x cs 34) ∧ Y x W') : hwF b q z bs p r e Y l' s v W' := by
  unfold hwF at h ⊢
  split at h <;> first | exact h | skip
  obtain ⟨x, h1, h2, h3, h4⟩ := h
  obtain ⟨k1, k2⟩ := hk x h3 h2.lt
  exact ⟨x, h1, by rw [hl]; exact k1 _ h2, h3, fun _ => k2⟩
theorem hwF_store {b q z x : Nat} {bs : Bst} {p : ByteArray} {r : Bst} {e : Int} {Y : Nat → World → Prop} {l l' : Array Bool} {s : Nat} {v : Value} {W W' : World} (h : hwF b q z bs p r e Y l s v W) (hx : s = 5 → v = .pointer (some ⟨x, 0, none⟩)) (hl : l'.getD 14 false = true) (hn : Has W' x (bV r).toArray 34) (hz : z ≤ x) (hY : Y x W') : hwF b q z bs p r e Y l' s v W' := by
  unfold hwF at h ⊢
  split at h <;> first | exact h | skip
  exact ⟨x, hx rfl, by rw [if_pos hl]; exact hn, hz, fun _ => hY⟩
theorem rn_f40_0 {ev : Operand → Value} {o : Oper} {w : World} {x : Operand} {g : Nat} (ho : o.op = .fieldAddr 40 x 0) (hx : ev x = .pointer (some ⟨g, 0, none⟩)) : (execOp ev o).run Tryz.prog w = .ok (.value (.pointer (some ⟨g, 0, none⟩))) w := by
  simp [execOp, ho, hx, go_sem]
theorem rn_hload34 {ev : Operand → Value} {o : Oper} {w : World} {x : Operand} {q b : Nat} {bs : Bst} {op : Bool} {mv : Value} (ho : o.op = .load 34 x) (hx : ev x = .pointer (some ⟨q, 1, none⟩)) (hc : Has w q (hcells b bs op mv) 40) : (execOp ev o).run Tryz.prog w = .ok (.value (.agg (bV bs).toArray)) w := by
  have c1 : w.cell? ⟨q, 1, none⟩ = some (.int .i64 bs.e) := hc.cell 1
  have c2 : w.cell? ⟨q, 2, none⟩ = some (.int .i64 bs.g) := hc.cell 2
  have c3 : w.cell? ⟨q, 3, none⟩ = some (.int .i64 bs.k) := hc.cell 3
  have c4 : w.cell? ⟨q, 4, none⟩ = some (.int .i64 bs.n) := hc.cell 4
  have c5 : w.cell? ⟨q, 5, none⟩ = some (.string bs.p) := hc.cell 5
  simp [execOp, ho, hx, go_sem, c1, c2, c3, c4, c5, bV]
theorem ens19 (args : Array Value) (w : World) : (callFunc 19 args).run Tryz.prog w = .ok (.enter 19 args) w := by kernel_rfl
/-- append, and where what it yields lies -/
theorem wpList_app2 {T e : TypeId} {size : Nat} (E : El T e size) {ops : Array Oper} {rest : List Oper} {o : Oper} {a : Act} {w : World} {Q : Exit → Act → World → Prop} (hgd : o.guard = none) (s x : Operand)
    (ho : o.op = .call { callee := .builtin .append, args := #[s, x], argTypes := #[T, T] }) (base : Nat) (v : Value) (n : Nat) (xs : List Value) (hs : a.eval s = v) (hown : w.ownsRow base e size v n xs) (ad : Addr) (m c : Nat) (news : List Value) (hx : a.eval x = .slice (some ad) m c) (hm : 0 < m) (hl : news.length = m * size) (hnews : ∀ j u, news[j]? = some u → w.cell? (ad.add j) = some u) (h1 : ∀ u ∈ news, u.oneCell' = true) (hb : n + m ≤ 100000000) (hbase : base ≤ w.heap.size)
    (h : ∀ g cap w', w'.ownsRow base e size (.slice (some ⟨g, 0, none⟩) (n + m) cap) (n + m) (xs ++ news) → w.grownBy w' v.ownBlock → (v.ownBlock = some g ∨ w.heap.size ≤ g) → wpList Tryz.prog ops Q rest (a.put o.dst (.slice (some ⟨g, 0, none⟩) (n + m) cap)) w') : wpList Tryz.prog ops Q (o :: rest) a w := by
  obtain ⟨g, cap, w', r1, r2, r3, _, r5⟩ := run_app2 E w o.type base v n xs hown ad m c news hm hl hnews h1 hb hbase
  refine wpList_plain hgd fun K hK => ?_
  unfold Oper.wp execOp
  simp only [ho, resolve, invoke, builtin, Sem.run_bind, Sem.run_pure, Result.andThen_ok, List.map_toArray, List.map_cons, List.map_nil, hs, hx, r1]
  exact hK _ _ (h g cap w' r2 r3 r5)
/-- a body more may be found, and it is held no more -/
theorem HS.more {x0 p : ByteArray} {g3 cap3 : Nat} (h : HS w0 w b q m c X V bs op l) (hg : w.grownBy w' (some m)) (hr : w'.ownsRow 0 9 1 (.slice (some ⟨g3, 0, none⟩) 2 cap3) 2 [.string x0, .string p]) (hw : some m = some g3 ∨ w.heap.size ≤ g3) (hl : l = [x0]) :
    ((w'.cell? ⟨q, 0, none⟩ = some (.pointer (some ⟨b, 0, none⟩)) ∧ w'.cell? ⟨q, 6, none⟩ = some (.bool op) ∧ w'.cell? ⟨q, 7, none⟩ = some (.slice (some ⟨m, 0, none⟩) l.length c)) ∧ w'.frozen? ⟨q, 6, none⟩ = false ∧ w'.frozen? ⟨q, 7, none⟩ = false) ∧
    HS w0 ((w'.setCell ⟨q, 7, none⟩ (.slice (some ⟨g3, 0, none⟩) 2 cap3)).setCell ⟨q, 6, none⟩ (.bool false)) b q g3 cap3 X V bs false (l ++ [p]) ∧ Kpt X w ((w'.setCell ⟨q, 7, none⟩ (.slice (some ⟨g3, 0, none⟩) 2 cap3)).setCell ⟨q, 6, none⟩ (.bool false)) := by
  have ho3 : Only (fun j => j = m) w w' := Only.of_grown hg fun k hk => by cases hk; rfl
  have hq3 := ho3.has h.hq (Ne.symm h.qm)
  have ho5 : Only (fun j => j = q) w' ((w'.setCell ⟨q, 7, none⟩ (.slice (some ⟨g3, 0, none⟩) 2 cap3)).setCell ⟨q, 6, none⟩ (.bool false)) := Only.set (p := ⟨q, 6, none⟩) (Only.set (p := ⟨q, 7, none⟩) (Only.refl (fun j => j = q) w') (.inl rfl) _) (.inl rfl) _
  have hz := h.wt.base.size
  have hqw := h.hq.lt
  obtain ⟨_, hrow⟩ := hr
  rcases hrow with ⟨e, _⟩ | ⟨g, cap, cur, e, _, hcur, h1, h2, h3, h4⟩
  · cases e
  cases e
  have hcurH : Has w' g3 cur 9 := hcur
  have hg3 : ¬ X g3 ∧ g3 ≠ q ∧ w0.heap.size ≤ g3 ∧ WT w0 w' b V (fun j => X j ∨ (j = q ∨ j = g3)) := by
    rcases hw with e | e
    · cases e
      exact ⟨h.xm, h.qm, h.zm, h.wt.list (g := m) (.inr (.inr rfl)) h.zm ho3⟩
    · refine ⟨fun hj => by have := h.wt.lt g3 (.inl hj); omega, by omega, by omega, (h.wt.grew (g := m) (.inr (.inr rfl)) h.zm ho3 ⟨e, hcurH.lt⟩).sub fun j hj => ?_⟩
      rcases hj with hj | hj | hj
      · exact .inl (.inl hj)
      · exact .inl (.inr (.inl hj))
      · exact .inr hj
  obtain ⟨g1, g2, g4, g5⟩ := hg3
  have hk3 : Kpt X w w' := ⟨ho3.size, fun j hj => ho3.block j (h.wt.lt j (.inl hj)) fun e => h.xm (e ▸ hj)⟩
  refine ⟨⟨⟨hq3.cell 0, hq3.cell 6, hq3.cell 7⟩, hq3.frozen 6, hq3.frozen 7⟩, ⟨?_, ⟨cur, ho5.has hcurH g2, fun j x hj => ?_⟩, (fun e => by cases e), g5.list (g := q) (.inr (.inl rfl)) h.zq ho5, h.xq, g1, g2, h.zq, g4, by rw [hl]; exact Nat.le_refl _⟩, hk3.trans ⟨ho5.size, fun j hj => ho5.block j (g5.lt j (.inl hj)) fun e => h.xq (e ▸ hj)⟩⟩
  · have := (hq3.set 7 (.slice (some ⟨g3, 0, none⟩) 2 cap3)).set 6 (.bool false)
    rw [hl]
    exact this
  · rw [hl] at hj
    have hj2 : j < 2 := (List.getElem?_eq_some_iff.1 hj).1
    have e1 : (cur.toList.take 2)[j]? = some (.string x) := by
      rw [show cur.toList.take 2 = [.string x0, .string p] from h4]
      match j, hj2 with
      | 0, _ => simp at hj; rw [hj]; rfl
      | 1, _ => simp at hj; rw [hj]; rfl
    rw [List.getElem?_take, if_pos hj2] at e1
    rw [← Array.getElem?_toList]
    exact e1
set_option maxHeartbeats 16000000 in
set_option maxRecDepth 20000 in
theorem hwrite_any (h : HS w0 w b q m c X V bs true l) (hl : F.Lay w0) {M n : Nat} (hok : Ok M n V) (hn : n ≤ 12) (hM : M ≤ 700000) (p : ByteArray) (hp : p.size ≤ 1000000) (hr : (writeW V bs p).1 = 56 ∨ ((writeW V bs p).1 = 0 ∧ (writeW V bs p).2.1.p = p)) (Q : Ending → World → Prop)
    (hqC : (writeW V bs p).1 = 56 → ∀ w' m' c', HS w0 w' b q m' c' X (writeW V bs p).2.2 bs false (l ++ [p]) → Kpt X w w' → Ok (M + 6 * n) n (writeW V bs p).2.2 → Q (.returned (.bool (writeW V bs p).2.2.dark)) w')
    (hqO : (writeW V bs p).1 = 0 → ∀ w' m', HS w0 w' b q m' 1 X (writeW V bs p).2.2 (writeW V bs p).2.1 true [p] → Kpt X w w' → Ok (M + 6 * n) n (writeW V bs p).2.2 → Q (.returned (.bool true)) w') : Calls Tryz.prog 17 #[.pointer (some ⟨q, 0, none⟩), .string p] w Q := by
  have HWR : Hid (∀ W, Below w.heap.size w W → Calls Tryz.prog 19 #[.pointer (some ⟨b, 0, none⟩), .agg (bV bs).toArray, .string p] W fun e w' => e = .returned (.tuple #[.agg (bV (writeW V bs p).2.1).toArray, .int .i64 (writeW V bs p).1]) ∧ WT w0 w' b (writeW V bs p).2.2 (fun j => (X j ∨ (j = q ∨ j = m)) ∨ (w.heap.size ≤ j ∧ j < W.heap.size)) ∧ Kpt (fun j => (X j ∨ (j = q ∨ j = m)) ∨ (w.heap.size ≤ j ∧ j < W.heap.size)) W w' ∧ Ok (M + 6 * n) n (writeW V bs p).2.2) := hid fun W hW => write_any (h.wt.new hW) hl hok hn hM bs p hp
  have HH := hid h
  have HQC := hid hqC
  have HQO := hid hqO
  have HR := hid hr
  clear h hl hok hqC hqO hr
  generalize writeW V bs p = R at *
  obtain ⟨e, r, V'⟩ := R
  simp only at HWR HQC HQO HR
  go_enter Tryz.func17, Tryz.ntmps17
  go_wp2_with fail
  have HQH : Hid (∀ W, (Below w.heap.size w W ∨ Kpt (fun j => X j ∨ (j = q ∨ j = m)) w W) → Has W q (hcells b bs true (.slice (some ⟨m, 0, none⟩) l.length c)) 40) := hid fun W hW => by
    rcases hW with hW | hW
    · exact HH.out.hq.below hW HH.out.hq.lt
    · exact hW.has (.inr (.inl rfl)) HH.out.hq
  refine Tl.wp_mixF_lit (by kernel_rfl) 15 [8, 9, 10, 11, 12, 13, 14, 15, 16, 17, 7, 18, 19, 5] 60 rfl (by kernel_rfl) (One 9 (fun W => Below w.heap.size w W) (fun W => (WT w0 W b V' (fun j => X j ∨ (j = q ∨ j = m)) ∧ Ok (M + 6 * n) n V') ∧ Kpt (fun j => X j ∨ (j = q ∨ j = m)) w W)) (hwF b q w.heap.size bs p r e (fun x W => WT w0 W b V' (fun j => (X j ∨ (j = q ∨ j = m)) ∨ j = x))) ((Below.refl _ _).drew)
    ⟨fun k a' W' hs hi hcl he hC hF => ?_, fun k a' W' hs hi hcl he hC hF => ?_, fun k a' W' hs hi hcl he hC hF => ?_, fun k a' W' hs hi hcl he hC hF => ?_, fun k a' W' hs hi hcl he hC hF => ?_, fun k a' W' hs hi hcl he hC hF => ?_, fun k a' W' hs hi hcl he hC hF => ?_, fun k a' W' hs hi hcl he hC hF => ?_, fun k a' W' hs hi hcl he hC hF => ?_, fun k a' W' hs hi hcl he hC hF => ?_, fun k a' W' hs hi hcl he hC hF => ?_, fun k a' W' hs hi hcl he hC hF => ?_, fun k a' W' hs hi hcl he hC hF => ?_, fun k a' W' hs hi hcl he hC hF => ?_, fun k a' W' hs hi hcl he hC hF => ?_, trivial⟩ ?_
  · exact Tl.sf_v 8 _ rfl (Tl.wanted_none rfl) (hC.other (by decide)) rfl (rn_move rfl ((hF 0 (by decide +kernel)).2 (by decide))) (fun d v h => hwF_go h ⟨set_other k (by decide), set_other k (by decide)⟩ (Below.refl _ _) fun _ h => h)
  · exact Tl.sf_v 9 _ rfl (Tl.wanted_none rfl) (hC.other (by decide)) rfl (rn_nilCheck rfl ((hF 8 (by decide +kernel)).1 (by decide))) (fun d v h => hwF_go h ⟨set_other k (by decide), set_other k (by decide)⟩ (Below.refl _ _) fun _ h => h)
  · exact Tl.sf_v 10 _ rfl (Tl.wanted_none rfl) (hC.other (by decide)) rfl (rn_f40_0 rfl ((hF 9 (by decide +kernel)).1 (by decide))) (fun d v h => hwF_go h ⟨set_other k (by decide), set_other k (by decide)⟩ (Below.refl _ _) fun _ h => h)
  · have hq := HQH.out W' (hC.any (Y := fun W => Below w.heap.size w W ∨ Kpt (fun j => X j ∨ (j = q ∨ j = m)) w W) .inl fun h => .inr h.2)
    exact Tl.sf_v 11 _ rfl (Tl.wanted_none rfl) (hC.other (by decide)) rfl (rn_load27 rfl ((hF 10 (by decide +kernel)).1 (by decide)) (hq.cell 0)) (fun d v h => hwF_go h ⟨set_other k (by decide), set_other k (by decide)⟩ (Below.refl _ _) fun _ h => h)
  · exact Tl.sf_v 12 _ rfl (Tl.wanted_none rfl) (hC.other (by decide)) rfl (rn_move rfl ((hF 0 (by decide +kernel)).2 (by decide))) (fun d v h => hwF_go h ⟨set_other k (by decide), set_other k (by decide)⟩ (Below.refl _ _) fun _ h => h)
  · exact Tl.sf_v 13 _ rfl (Tl.wanted_none rfl) (hC.other (by decide)) rfl (rn_nilCheck rfl ((hF 12 (by decide +kernel)).1 (by decide))) (fun d v h => hwF_go h ⟨set_other k (by decide), set_other k (by decide)⟩ (Below.refl _ _) fun _ h => h)
  · exact Tl.sf_v 14 _ rfl (Tl.wanted_none rfl) (hC.other (by decide)) rfl (rn_f40_1 rfl ((hF 13 (by decide +kernel)).1 (by decide))) (fun d v h => hwF_go h ⟨set_other k (by decide), set_other k (by decide)⟩ (Below.refl _ _) fun _ h => h)
  · have hq := HQH.out W' (hC.any (Y := fun W => Below w.heap.size w W ∨ Kpt (fun j => X j ∨ (j = q ∨ j = m)) w W) .inl fun h => .inr h.2)
    exact Tl.sf_v 15 _ rfl (Tl.wanted_none rfl) (hC.other (by decide)) rfl (rn_hload34 rfl ((hF 14 (by decide +kernel)).1 (by decide)) hq) (fun d v h => hwF_go h ⟨set_other k (by decide), set_other k (by decide)⟩ (Below.refl _ _) fun _ h => h)
  · exact Tl.sf_v 16 _ rfl (Tl.wanted_none rfl) (hC.other (by decide)) rfl (rn_move rfl ((hF 1 (by decide +kernel)).2 (by decide))) (fun d v h => hwF_go h ⟨set_other k (by decide), set_other k (by decide)⟩ (Below.refl _ _) fun _ h => h)
  · have hB := hC.first hi
    refine Tl.sf_call 19 #[_, _, _] (Tl.wanted_none rfl) (rn_call3 rfl rfl ((hF 11 (by decide +kernel)).1 (by decide)) ((hF 15 (by decide +kernel)).1 (by decide)) ((hF 16 (by decide +kernel)).1 (by decide)) (ens19 _ _)) ((HWR.out W' hB).mono ?_)
    rintro e' w'' ⟨rfl, a1, a2, a3⟩
    refine ⟨_, rfl, One.did (by rw [hs]; decide) ⟨⟨a1.sub fun j hj => .inl hj, a3⟩, (Kpt.below HH.out.wt hB).trans (a2.sub fun j hj => .inl hj)⟩, fun d _ h => hwF_call h (set_other k (by decide)) fun x hz hx => ⟨fun cs hh => a2.has (.inr ⟨hz, hx⟩) hh, a1.sub fun j hj => ?_⟩, fun d hd => by cases hd; rfl⟩
    rcases hj with hj | hj
    · exact .inl hj
    · exact .inr (by rw [hj]; exact ⟨hz, hx⟩)
  · exact Tl.sf_v 7 _ rfl (Tl.wanted_none rfl) (hC.other (by decide)) rfl (rn_move rfl ((hF 17 (by decide +kernel)).1 (by decide))) (fun d v h => hwF_go h ⟨set_other k (by decide), set_other k (by decide)⟩ (Below.refl _ _) fun _ h => h)
  · exact Tl.sf_v 18 _ rfl (Tl.wanted_none rfl) (hC.other (by decide)) rfl (rn_ext0 rfl ((hF 7 (by decide +kernel)).1 (by decide))) (fun d v h => hwF_go h ⟨set_other k (by decide), set_other k (by decide)⟩ (Below.refl _ _) fun _ h => h)
  · exact Tl.sf_v 19 _ rfl (Tl.wanted_none rfl) (hC.other (by decide)) rfl (rn_ext1 rfl ((hF 7 (by decide +kernel)).1 (by decide))) (fun d v h => hwF_go h ⟨set_other k (by decide), set_other k (by decide)⟩ (Below.refl _ _) fun _ h => h)
  · have hbx := boxed W' (.cells (bV zB).toArray 34)
    have hzW : w.heap.size ≤ W'.heap.size := hC.any (Y := fun W => w.heap.size ≤ W.heap.size) (fun h => Below.size h) (fun h => h.2.1)
    refine Tl.sf_w 5 _ rfl (Tl.wanted_none rfl) (rn_alloc34 rfl) ?_ ?_ (fun d h => hwF_go h ⟨set_other k (by decide), set_other k (by decide)⟩ hbx fun x hY => WT.below hY hbx)
    · exact (hC.other (i := 13) (by decide)).grow (fun h => Below.trans h (hbx.mono (Below.size h))) (fun h => ⟨⟨h.1.1.below hbx, h.1.2⟩, h.2.trans (Kpt.below h.1.1 hbx)⟩)
    · have h14 : k.getD 14 false = false := by
        cases h14 : k.getD 14 false with
        | false => rfl
        | true => have := hcl 14 13 h14 (by decide +kernel); rw [hi] at this; cases this
      refine ⟨_, rfl, ?_, hzW, fun e9 => ?_⟩
      · rw [set_other k (by decide), h14]
        exact Has.new _ _ _ _ rfl
      · rw [set_other k (by decide)] at e9
        exact WT.plus (hC.last e9).1.1 hbx ⟨Nat.le_refl _, by simp⟩
  · obtain ⟨x, v5, hx1, hxz, hxY⟩ := (show ∃ x, a'.tmps.getD 5 undef = .pointer (some ⟨x, 0, none⟩) ∧ Has W' x (bV (if k.getD 14 false = true then r else zB)).toArray 34 ∧ w.heap.size ≤ x ∧ (k.getD 9 false = true → WT w0 W' b V' (fun j => (X j ∨ (j = q ∨ j = m)) ∨ j = x)) from (hF 5 (by decide +kernel)).1 (by decide))
    have h9 : k.getD 9 false = true := he 9 (by decide +kernel)
    rw [if_neg (by rw [hi]; decide)] at hx1
    obtain ⟨p1, p2⟩ := put5 (c := r) hx1
    have hB := hC.last h9
    have hzz := HH.out.wt.base.size
    have hY := (hxY h9).list (g := x) (.inr rfl) (by omega) p2
    refine Tl.sf_s rfl (Tl.wanted_none rfl) (rn_store34 rfl v5 ((hF 18 (by decide +kernel)).1 (by decide)) hx1) ?_ (fun d h => hwF_store h (fun e => by rw [e]; exact v5) (set_same' k (by rw [hs]; decide)) p1 hxz hY)
    unfold One
    rw [set_other k (by decide), if_pos h9]
    exact ⟨⟨hY.sub fun j hj => .inl hj, hB.1.2⟩, hB.2.trans ⟨p2.size, fun j hj => p2.block j (hB.1.1.lt j hj) (by have := HH.out.wt.lt j hj; omega)⟩⟩
  intro k v w2 hk hC hv
  obtain ⟨⟨hw2, hok2⟩, hkT⟩ := hC.last (hk 9 (by decide))
  have v19 : v 19 = .int .i64 e := hv 19 (by decide)
  obtain ⟨x, v5, hx1, hxz, _⟩ := (show ∃ x, v 5 = .pointer (some ⟨x, 0, none⟩) ∧ Has w2 x (bV (if k.getD 14 false = true then r else zB)).toArray 34 ∧ w.heap.size ≤ x ∧ (k.getD 9 false = true → WT w0 w2 b V' (fun j => (X j ∨ (j = q ∨ j = m)) ∨ j = x)) from hv 5 (by decide))
  rw [if_pos (hk 14 (by decide))] at hx1
  have HX2 := hid hx1
  have HOK := hid hok2
  have HZ : Hid (w0.heap.size ≤ w.heap.size ∧ w.heap.size ≤ x ∧ (∀ j, X j → j < w.heap.size) ∧ q < w.heap.size ∧ m < w.heap.size) := hid ⟨HH.out.wt.base.size, hxz, fun j hj => HH.out.wt.lt j (.inl hj), HH.out.hq.lt, HH.out.wt.lt m (.inr (.inr rfl))⟩
  have H2 := hid (HH.out.did hw2 hkT)
  have HK2 := hid (HH.out.kX hkT)
  clear hv hk hC hw2 hok2 hkT hx1 hxz HQH HWR
  simp only [Tl.fill, List.drop_succ_cons, List.drop_zero, wpList]
  simp only [Act.put, List.setIfInBounds_toArray, List.set_cons_succ, List.set_cons_zero, v19, v5]
  clear v19 v5
  rw [if_pos (Tl.wanted_none rfl)]
  left
  refine wp_assign (x := .tmp 19) (d := 6) (v := .int .i64 e) rfl rfl rfl ?_
  simp only [Act.put, List.setIfInBounds_toArray, List.set_cons_succ, List.set_cons_zero]
  obtain ⟨re, rg, rk, rn, rp⟩ := r
  rcases HR.out with e56 | ⟨e0, hrp⟩
  · subst e56
    obtain ⟨hc1, x0, hl0, hm0⟩ := H2.out.one rfl
    obtain ⟨wa, hwa⟩ : ∃ wa, wa = w2.alloc (.cells #[.string p] 9) := ⟨_, rfl⟩
    have hba : Below w2.heap.size w2 wa := by rw [hwa]; exact boxed _ _
    have HA := hid (H2.out.below hba)
    have hma : Has wa m #[.string x0] 9 := hm0.below hba hm0.lt
    have hown : wa.ownsRow 0 9 1 (.slice (some ⟨m, 0, none⟩) 1 1) 1 [.string x0] := ⟨rfl, .inr ⟨m, 1, #[.string x0], rfl, Nat.zero_le _, hma, Nat.le_refl _, by unfold maxLen; decide, rfl, rfl⟩⟩
    have HNW : Hid (∀ j u, ([.string p] : List Value)[j]? = some u → wa.cell? ((⟨w2.heap.size, 0, none⟩ : Addr).add j) = some u) := hid (by rw [hwa]; exact new_cells w2 [.string p] 9)
    have hsa : wa.heap.size = w2.heap.size + 1 := by rw [hwa]; simp
    obtain ⟨⟨_, _, _, _, _, _, _, c7⟩, _⟩ := H2.out.cells
    rw [hc1, hl0] at c7
    have c7' : w2.cell? ⟨q, 7, none⟩ = some (.slice (some ⟨m, 0, none⟩) 1 1) := c7
    have HOW := hid hown
    have HLL := hid hl0
    clear c7 hown hma hm0 hba
    go_wp2_with (at_builtin; rw [← hwa]; refine wpList_app2 el9 rfl _ _ rfl 0 _ 1 _ rfl HOW.out ⟨w2.heap.size, 0, none⟩ 1 1 [.string p] rfl (by decide) rfl HNW.out (by simp [Value.oneCell']) (by omega) (by omega) ?_; intro g3 cap3 w3 hr3 hg3 hw3; obtain ⟨⟨⟨d0, d6, d7⟩, f6, f7⟩, hm3⟩ := HA.out.more hg3 hr3 hw3 HLL.out; have HM3 := hid hm3; clear hr3 hg3 hw3 hm3)
    have HDK := HM3.out.1.wt.dark
    unfold ptr at HDK
    refine HDK.mono ?_
    clear HDK
    rintro _ w4 ⟨rfl, rfl⟩
    have HBA : Hid (Kpt X w2 wa) := hid (by rw [hwa]; exact (Kpt.below H2.out.wt (boxed w2 (.cells #[.string p] 9))).sub fun j hj => .inl hj)
    clear hwa
    go_wp2_with fail
    exact HQC.out trivial _ g3 cap3 HM3.out.1 ((HK2.out.trans HBA.out).trans HM3.out.2) HOK.out
  · subst e0
    simp only at hrp
    subst hrp
    obtain ⟨wa, hwa⟩ : ∃ wa, wa = w2.alloc (.cells #[.string rp] 9) := ⟨_, rfl⟩
    have hba : Below w2.heap.size w2 wa := by rw [hwa]; exact boxed _ _
    have hy : Has wa w2.heap.size #[.string rp] 9 := by rw [hwa]; exact Has.new _ _ _ _ rfl
    have ha := H2.out.below hba
    have hwa5 : WT w0 wa b V' (fun j => X j ∨ (j = q ∨ j = w2.heap.size)) := (H2.out.wt.plus hba (q := w2.heap.size) ⟨Nat.le_refl _, hy.lt⟩).sub fun j hj => by
      rcases hj with hj | hj | hj
      · exact .inl (.inl hj)
      · exact .inl (.inr (.inl hj))
      · exact .inr hj
    have hq2 := H2.out.hq.lt
    have hz2 := H2.out.wt.base.size
    have HFI := hid (ha.wrote (w' := (((((wa.setCell ⟨q, 1, none⟩ (.int .i64 re)).setCell ⟨q, 2, none⟩ (.int .i64 rg)).setCell ⟨q, 3, none⟩ (.int .i64 rk)).setCell ⟨q, 4, none⟩ (.int .i64 rn)).setCell ⟨q, 5, none⟩ (.string rp)).setCell ⟨q, 7, none⟩ (.slice (some ⟨w2.heap.size, 0, none⟩) 1 1)) (bs' := ⟨re, rg, rk, rn, rp⟩) (op' := true) (m' := w2.heap.size) (c' := 1) (l' := [rp]) (Only.set (p := ⟨q, 7, none⟩) (Only.set (p := ⟨q, 5, none⟩) (Only.set (p := ⟨q, 4, none⟩) (Only.set (p := ⟨q, 3, none⟩) (Only.set (p := ⟨q, 2, none⟩) (Only.set (p := ⟨q, 1, none⟩) (Only.refl (fun j => j = q) wa) (.inl rfl) _) (.inl rfl) _) (.inl rfl) _) (.inl rfl) _) (.inl rfl) _) (.inl rfl) _) ((((((ha.hq.set 1 _).set 2 _).set 3 _).set 4 _).set 5 _).set 7 _) hwa5 ⟨_, hy, fun j z hj => by
      cases j with
      | zero => simp at hj; subst hj; rfl
      | succ j => simp at hj⟩ (fun _ => ⟨rfl, rp, rfl, hy⟩) (fun hj => by have := H2.out.wt.lt _ (.inl hj); omega) (by omega) (by omega) (Nat.le_succ 1))
    have HKA := hid (HK2.out.trans ((Kpt.below H2.out.wt hba).sub (T' := X) fun j hj => .inl hj))
    have hx2 := HX2.out
    have y0 : w2.cell? ⟨x, 0, none⟩ = some (.int .i64 re) := hx2.cell 0
    have y1 : w2.cell? ⟨x, 1, none⟩ = some (.int .i64 rg) := hx2.cell 1
    have y2 : w2.cell? ⟨x, 2, none⟩ = some (.int .i64 rk) := hx2.cell 2
    have y3 : w2.cell? ⟨x, 3, none⟩ = some (.int .i64 rn) := hx2.cell 3
    have y4 : w2.cell? ⟨x, 4, none⟩ = some (.string rp) := hx2.cell 4
    obtain ⟨⟨d0, d1, d2, d3, d4, d5, d6, d7⟩, g1, g2, g3, g4, g5, g6, g7⟩ := ha.cells
    rw [hwa] at d0 d1 d2 d3 d4 d5 d6 d7 g1 g2 g3 g4 g5 g6 g7 HFI HKA
    clear hba hy ha hwa5 hx2 hwa hq2 hz2
    go_wp2_with fail
    exact HQO.out trivial _ w2.heap.size HFI.out.1 (HKA.out.trans HFI.out.2) HOK.out
end Go.Proofs.YtmpgfpmkmgebdaaGreatDoor
