/- The program's world: New. -/
import Derived.Test.YtmpgfpmkmgebdaaGreatDoorWW9
namespace Go.Proofs.YtmpgfpmkmgebdaaGreatDoor.W
open Go.RowKit Go.Maps
variable {w w' w1 w2 : World} {S : Nat → Prop} {b g : Nat} {W W' : Wd}
/-- a world in the making: the first ones of its stores stand -/
def PreWd (w : World) (S : Nat → Prop) (b g n cap : Nat) (rest : Array Value) (l : List Kp) (xs : List Value) : Prop := ∃ (F : Nat → Nat → Prop), Has w b (#[.slice (some ⟨g, 0, none⟩) n cap] ++ rest) 62 ∧ w.ownsRow 0 66 2 (.slice (some ⟨g, 0, none⟩) n cap) n (l.flatMap kcells ++ xs) ∧ (∀ (j : Nat) (x : Kp), l[j]? = some x → IsSt w (F j) x.blk x.st ∧ (∀ i, F j i → S i) ∧ ¬ F j b ∧ ¬ F j g) ∧ (∀ j k, j < l.length → k < l.length → j ≠ k → ∀ i, F j i → ¬ F k i) ∧ S b ∧ S g ∧ (∀ i, S i → i < w.heap.size)
variable {n cap : Nat} {rest : Array Value} {l : List Kp} {xs : List Value}
theorem kflat_len (l : List Kp) : (l.flatMap kcells).length = l.length * 2 := by
  induction l with
  | nil => rfl
  | cons p r ih => rw [List.flatMap_cons, List.length_append, ih, List.length_cons]; show 2 + _ = _; omega
theorem PreWd.done (h : PreWd w S b g n cap rest l []) {W : Wd} (hl : W.l = l) (hn : l.length = n) (hr : (#[.slice (some ⟨g, 0, none⟩) n cap] ++ rest : Array Value) = wdcells (.slice (some ⟨g, 0, none⟩) n cap) W) : IsWd w S b g W := by
  obtain ⟨F, h1, h2, h3⟩ := h
  rw [hr] at h1
  rw [List.append_nil] at h2
  subst hn
  subst hl
  exact ⟨cap, F, h1, h2, h3⟩
theorem PreWd.push {p : Value} {s : Bool} (h : PreWd w S b g n cap rest l (p :: .bool s :: xs)) {T : Nat → Prop} {blk : Nat} {st : St} (ht : IsSt w1 T blk st) (hT : ∀ i, T i → w.heap.size ≤ i) (hb : Below w.heap.size w w1) : PreWd (w1.setCell ⟨g, l.length * 2, none⟩ (ptr blk)) (fun i => S i ∨ T i) b g n cap rest (l ++ [⟨blk, st, s⟩]) xs := by
  obtain ⟨F, h1, h2, h3, h4, h5, h6, h7⟩ := h
  have hbl := h7 b h5
  have hgl := h7 g h6
  have h1' := h1.below hb hbl
  have h2' := row_below h2 hb
  have hbg : b ≠ g := fun e => row_ne h2 h1 (by decide) g rfl e.symm
  have ho : Only (fun i => i = g) w1 (w1.setCell ⟨g, l.length * 2, none⟩ (ptr blk)) := (Only.refl (fun i => i = g) w1).set (p := ⟨g, l.length * 2, none⟩) (.inl rfl) _
  have hTb := ht.bound
  refine ⟨fun k => if k = l.length then T else F k, ho.has h1' hbg, ?_, fun j x hj => ?_, fun j k hj hk hjk i hi hi' => ?_, .inl h5, .inl h6, fun i hi => ?_⟩
  · have hs := (h2'.stored (l.length * 2) (ptr blk)).1
    have e : (l.flatMap kcells ++ p :: .bool s :: xs).set (l.length * 2) (ptr blk) = (l ++ [(⟨blk, st, s⟩ : Kp)]).flatMap kcells ++ xs := by
      rw [List.set_append_right _ _ (by rw [kflat_len]; exact Nat.le_refl _), kflat_len, Nat.sub_self, List.flatMap_append, List.append_assoc]
      rfl
    rw [e] at hs
    exact hs
  · by_cases e : j = l.length
    · subst e
      simp only [List.getElem?_concat_length, Option.some.injEq] at hj
      subst hj
      simp only [if_true]
      refine ⟨ht.only ho fun i hi e => ?_, fun i hi => .inr hi, fun hb' => ?_, fun hg' => ?_⟩
      · have := hT i hi
        subst e; omega
      · have := hT b hb'; omega
      · have := hT g hg'; omega
    · have hjl : j < l.length := by
        have := (List.getElem?_eq_some_iff.1 hj).1
        simp at this; omega
      rw [List.getElem?_append_left hjl] at hj
      simp only [if_neg e]
      obtain ⟨k1, k2, k3, k4⟩ := h3 j x hj
      exact ⟨(k1.below hb).only ho fun i hi e => k4 (e ▸ hi), fun i hi => .inl (k2 i hi), k3, k4⟩
  · simp only [List.length_append, List.length_singleton] at hj hk
    have new : ∀ m, m < l.length → F m i → T i → False := fun m hm a c => by
      obtain ⟨y, hy⟩ : ∃ y, l[m]? = some y := ⟨_, List.getElem?_eq_getElem hm⟩
      have := h7 i ((h3 m y hy).2.1 i a)
      have := hT i c
      omega
    by_cases ej : j = l.length
    · subst ej
      simp only [if_true] at hi
      simp only [if_neg (Ne.symm hjk)] at hi'
      exact new k (by omega) hi' hi
    · simp only [if_neg ej] at hi
      by_cases ek : k = l.length
      · subst ek
        simp only [if_true] at hi'
        exact new j (by omega) hi hi'
      · simp only [if_neg ek] at hi'
        exact h4 j k (by omega) (by omega) hjk i hi hi'
  · rcases hi with hi | hi
    · have := h7 i hi; have := hb.size; simp [World.setCell]; omega
    · have := hTb i hi; simpa [World.setCell] using this
section
variable {ev : Operand → Value} {o : Oper} {w : World} {x y : Operand}
theorem rn_f62_0 {g k : Nat} (ho : o.op = .fieldAddr 62 x 0) (hx : ev x = .pointer (some ⟨g, k, none⟩)) : (execOp ev o).run Tryz.prog w = .ok (.value (.pointer (some ⟨g, k, none⟩))) w := by
  simp [execOp, ho, hx, go_sem]
theorem rn_load60 {g k : Nat} {v : Value} (ho : o.op = .load 60 x) (hx : ev x = .pointer (some ⟨g, k, none⟩)) (hc : w.cell? ⟨g, k, none⟩ = some v) : (execOp ev o).run Tryz.prog w = .ok (.value v) w := by
  simp [execOp, ho, hx, go_sem, hc]
theorem rn_ix60 {g n c i : Nat} (ho : o.op = .indexAddr 60 x y) (hx : ev x = .slice (some ⟨g, 0, none⟩) n c) (hy : ev y = .int .i64 (i : Int)) (hi : i < n) : (execOp ev o).run Tryz.prog w = .ok (.value (.pointer (some ⟨g, i * 2, none⟩))) w := by
  have q1 : (i : Int) < (n : Int) := by omega
  simp [execOp, ho, hx, hy, go_sem, q1]
theorem rn_call0 {f : FuncId} (ho : o.op = .call { callee := .value (.func f), args := #[], argTypes := #[] }) (hf : ev (.func f) = .func (.func f) #[] #[]) (hb : (callFunc f #[]).run Tryz.prog w = .ok (.enter f #[]) w) : (execOp ev o).run Tryz.prog w = .ok (.enter f #[]) w := by
  simp [execOp, ho, hf, go_sem, hb]
theorem enter26 (args : Array Value) : (callFunc 22 args).run Tryz.prog w = .ok (.enter 22 args) w := by kernel_rfl
end
def nwF (b g n cap k Z : Nat) (i : Nat) (v : Value) (W : World) : Prop := match i with
  | 24 => v = .pointer (some ⟨b, 0, none⟩) | 25 => v = .pointer (some ⟨b, 0, none⟩) | 26 => v = .pointer (some ⟨b, 0, none⟩)
  | 27 => v = .slice (some ⟨g, 0, none⟩) n cap | 28 => v = .int .i64 (k : Int)
  | 29 => ∃ (q : Nat) (T : Nat → Prop), v = ptr q ∧ IsSt W T q st0 ∧ ∀ i, T i → Z ≤ i
  | 30 => v = .pointer (some ⟨g, k * 2, none⟩) | 31 => v = .pointer (some ⟨g, k * 2, none⟩)
  | _ => True
theorem nwF_below {b g n cap k Z i : Nat} {v : Value} {W W' : World} (h : nwF b g n cap k Z i v W) (hb : Below W.heap.size W W') : nwF b g n cap k Z i v W' := by
  unfold nwF at h ⊢
  split at h
  all_goals first
    | exact h
    | (obtain ⟨q, T, e1, e2, e3⟩ := h; exact ⟨q, T, e1, e2.below hb, e3⟩)
def zeroK : Nat → List Value
  | 0 => []
  | n + 1 => .pointer none :: .bool false :: zeroK n
theorem zeroK_len : ∀ n, (zeroK n).length = n * 2
  | 0 => rfl
  | n + 1 => by show (zeroK n).length + 2 = _; rw [zeroK_len n]; omega
theorem el66 : El 60 66 2 := el_of (z := .agg #[.pointer none, .bool false]) (bytes := 16) Tryz.underlying60 (by kernel_rfl) rfl (by decide) (by decide)
theorem zeroK_get : ∀ (n k : Nat), k < n * 2 → (zeroK n)[k]? = some (if k % 2 = 0 then .pointer none else .bool false)
  | 0, k, h => by omega
  | n + 1, 0, _ => rfl
  | n + 1, 1, _ => rfl
  | n + 1, k + 2, h => by
    show (zeroK n)[k]? = _
    rw [zeroK_get n k (by omega)]
    simp
theorem makes_kept (n : Nat) (hn : n ≤ 1000000) (w : World) : (Instr.makeSlice 60 (.int .i64 (n : Int)) (.int .i64 (n : Int))).run Tryz.prog w = .ok (.slice (some ⟨w.heap.size, 0, none⟩) n n) (w.alloc (.cells (zeroK n).toArray 66)) := by
  obtain ⟨i, hi⟩ : ∃ i, Tryz.prog.info? 66 = some i := by
    cases h : Tryz.prog.info? 66 with
    | none => have : (Tryz.prog.info? 66).isSome = true := by kernel_rfl
              rw [h] at this; cases this
    | some i => exact ⟨i, rfl⟩
  have hz : (Tryz.prog.info? 66).map (fun i => (i.zero, i.size, i.bytes)) = some (some (.agg #[.pointer none, .bool false]), 2, 16) := by kernel_rfl
  rw [hi] at hz
  simp only [Option.map_some, Option.some.injEq, Prod.mk.injEq] at hz
  obtain ⟨h1, h2, h3⟩ := hz
  rw [run_make w 60 66 i (.agg #[.pointer none, .bool false]) Tryz.underlying60 hi h1 .i64 .i64 (n : Int) (n : Int) (by omega) (Int.le_refl _) (by rw [h3]; omega) (by omega)]
  have e : madeCells (Value.agg #[.pointer none, .bool false]).cells (n * 2) = (zeroK n).toArray := by
    apply Array.toList_inj.1
    apply List.ext_getElem?
    intro k
    have hz : (Value.agg #[.pointer none, .bool false]).cells = #[.pointer none, .bool false] := rfl
    rw [hz]
    by_cases hk : k < n * 2
    · show _ = (zeroK n)[k]?
      rw [zeroK_get n k hk]
      rcases Nat.mod_two_eq_zero_or_one k with h | h <;> simp [madeCells, hk, h]
    · rw [List.getElem?_eq_none (by simp [madeCells]; omega)]
      show _ = (zeroK n)[k]?
      rw [List.getElem?_eq_none (by rw [zeroK_len]; omega)]
  rw [h2, Int.toNat_natCast, e]
def newW (l : List Kp) : Wd := ⟨l, 0, false, false, 0⟩
set_option maxHeartbeats 4000000 in
set_option maxRecDepth 20000 in
theorem wnew_any (w : World) (i : Int) (Q : Ending → World → Prop) (hq1 : ¬ (1 ≤ i ∧ i ≤ 12) → Q (.returned (.tuple #[.pointer none, .int .i64 1])) w)
    (hq2 : 1 ≤ i ∧ i ≤ 12 → ∀ (b g : Nat) (S : Nat → Prop) (l : List Kp) (w' : World), IsWd w' S b g (newW l) → l.length = i.toNat → (∀ x ∈ l, x.st = st0 ∧ x.sus = false) → (∀ i, S i → w.heap.size ≤ i) → Below w.heap.size w w' → Q (.returned (.tuple #[.pointer (some ⟨b, 0, none⟩), .int .i64 0])) w') : Calls Tryz.prog 6 #[.int .i64 i] w Q := by
  by_cases h1 : i < 1
  · have HN := hid (hq1 (by omega))
    clear hq1 hq2
    go_enter Tryz.func6, Tryz.ntmps6
    go_wp2_with fail
    exact HN.out
  · have q1 : decide (i < 1) = false := decide_eq_false h1
    by_cases h2 : 12 < i
    · have HN := hid (hq1 (by omega))
      clear h1 hq1 hq2
      go_enter Tryz.func6, Tryz.ntmps6
      go_wp2_with fail
      exact HN.out
    · have q2 : decide (12 < i) = false := decide_eq_false h2
      obtain ⟨n, rfl⟩ := Int.eq_ofNat_of_zero_le (show 0 ≤ i by omega)
      have hm := makes_kept n (by omega) w
      have hn1 : 1 ≤ n ∧ n ≤ 12 := by omega
      have HQ := hid (hq2 (by omega))
      clear h1 h2 hq1 hq2
      go_enter Tryz.func6, Tryz.ntmps6
      go_wp2_with fail
      obtain ⟨W0, hW0⟩ : ∃ W0, W0 = (w.alloc (.cells (zeroK n).toArray 66)).alloc (.cells #[.slice (some ⟨w.heap.size, 0, none⟩) n n, .int .i64 0, .bool false, .bool false, .int .i64 0] 62) := ⟨_, rfl⟩
      rw [← hW0]
      have HP := hid (show PreWd W0 (fun i => i = w.heap.size ∨ i = w.heap.size + 1) (w.heap.size + 1) w.heap.size n n #[.int .i64 0, .bool false, .bool false, .int .i64 0] [] (zeroK n) ∧ Below w.heap.size w W0 from by
        subst hW0
        refine ⟨⟨fun _ _ => False, Has.new _ _ _ _ (by simp), ⟨by simp [zeroK_len], .inr ⟨w.heap.size, n, (zeroK n).toArray, rfl, Nat.zero_le _, (Has.new w _ (zeroK n).toArray 66 rfl).alloc _, Nat.le_refl _, by unfold maxLen; omega, by simp [zeroK_len], by rw [List.flatMap_nil, List.nil_append]; exact List.take_of_length_le (by rw [zeroK_len]; exact Nat.le_refl _)⟩⟩, fun j x hj => by simp at hj, fun j k hj => by simp at hj, .inr rfl, .inl rfl, fun i hi => by simp; omega⟩, (boxed w _).trans ((boxed (w.alloc (.cells (zeroK n).toArray 66)) _).mono (by simp))⟩)
      clear hm hW0
      go_loopg [21] n (fun gk s21 wx => ∃ (k : Nat) (S : Nat → Prop) (l : List Kp), k + gk = n ∧ s21 = .int .i64 (k : Int) ∧ Hid (l.length = k ∧ ∀ x ∈ l, x.st = st0 ∧ x.sus = false) ∧ PreWd wx S (w.heap.size + 1) w.heap.size n n #[.int .i64 0, .bool false, .bool false, .int .i64 0] l (zeroK (n - k)) ∧ (∀ i, S i → w.heap.size ≤ i) ∧ Below w.heap.size w wx)
      case atStart => exact ⟨0, _, [], by omega, rfl, hid ⟨rfl, fun x hx => by cases hx⟩, HP.out.1, fun i hi => by rcases hi with h | h <;> omega, HP.out.2⟩
      case round =>
        clear HP
        obtain ⟨k, S, l, hk, rfl, HK, hp, hS, hbw⟩ := hrel
        have HPP := hid hp
        have HSS := hid hS
        have HBW := hid hbw
        clear hp hS hbw
        cases gk with
        | zero =>
          have p1 : ¬ ((k : Int) < (n : Int)) := by omega
          have HW := hid (show IsWd wr S (w.heap.size + 1) w.heap.size (newW l) from by
            have := HPP.out
            rw [show n - k = 0 by omega] at this
            exact PreWd.done this rfl (by rw [HK.out.1]; omega) rfl)
          have HQQ := hid (HQ.out _ _ _ _ _ HW.out (by rw [HK.out.1]; omega) HK.out.2 HSS.out HBW.out)
          clear HPP HW HQ
          go_wp2_with fail
          exact HQQ.out
        | succ g1 =>
          have p1 : (k : Int) < (n : Int) := by omega
          have hkn : k < n := by omega
          obtain ⟨_, h1, _, _, _, hSb, _, _⟩ := HPP.out
          have c0 : wr.cell? ⟨w.heap.size + 1, 0, none⟩ = some (.slice (some ⟨w.heap.size, 0, none⟩) n n) := h1.cell 0
          have hlb : w.heap.size + 1 < wr.heap.size := h1.lt
          clear h1 hSb
          go_wp2_with fail
          refine Tl.wp_mix_lit (by kernel_rfl) 8 [24, 25, 26, 27, 28, 29, 30, 31] 34 rfl (by kernel_rfl) (BelW wr) (nwF (w.heap.size + 1) w.heap.size n n k wr.heap.size) ((Below.refl _ _).drew)
            ⟨fun a' W' hC hF => ?_, fun a' W' hC hF => ?_, fun a' W' hC hF => ?_, fun a' W' hC hF => ?_, fun a' W' hC hF => ?_, fun a' W' hC hF => ?_, fun a' W' hC hF => ?_, fun a' W' hC hF => ?_, trivial⟩ ?_
          · exact Tl.sm_v 24 _ rfl (Tl.wanted_none rfl) hC rfl (rn_move rfl ((hF 4 (by decide +kernel)).2 (by decide)))
          · exact Tl.sm_v 25 _ rfl (Tl.wanted_none rfl) hC rfl (rn_nilCheck rfl ((hF 24 (by decide +kernel)).1 (by decide)))
          · exact Tl.sm_v 26 _ rfl (Tl.wanted_none rfl) hC rfl (rn_f62_0 rfl ((hF 25 (by decide +kernel)).1 (by decide)))
          · exact Tl.sm_v 27 _ rfl (Tl.wanted_none rfl) hC rfl (rn_load60 rfl ((hF 26 (by decide +kernel)).1 (by decide)) (BelW.cell hC (p := ⟨w.heap.size + 1, 0, none⟩) hlb c0))
          · exact Tl.sm_v 28 _ rfl (Tl.wanted_none rfl) hC rfl (rn_move rfl ((hF 5 (by decide +kernel)).2 (by decide)))
          · refine Tl.sm_call 22 #[] (Tl.wanted_none rfl) (rn_call0 rfl rfl (enter26 _)) ((new_any W').mono ?_)
            rintro e w'' ⟨q, T, rfl, hq1, hq2, b1⟩
            exact ⟨_, rfl, Below.trans hC (b1.mono hC.size), fun d v _ h => nwF_below h b1, fun d hd => by cases hd; exact ⟨q, T, rfl, hq1, fun i hi => Nat.le_trans hC.size (hq2 i hi)⟩⟩
          · exact Tl.sm_v 30 _ rfl (Tl.wanted_none rfl) hC rfl (rn_ix60 rfl ((hF 27 (by decide +kernel)).1 (by decide)) ((hF 28 (by decide +kernel)).1 (by decide)) hkn)
          · exact Tl.sm_v 31 _ rfl (Tl.wanted_none rfl) hC rfl (rn_f66_0 rfl ((hF 30 (by decide +kernel)).1 (by decide)))
          intro v wB hw hv
          obtain ⟨q, T, v29, hq1, hq2⟩ : ∃ (q : Nat) (T : Nat → Prop), v 29 = ptr q ∧ IsSt wB T q st0 ∧ ∀ i, T i → wr.heap.size ≤ i := hv 29 (by decide)
          have v31 : v 31 = .pointer (some ⟨w.heap.size, k * 2, none⟩) := hv 31 (by decide)
          have HPN := hid (show PreWd (wB.setCell ⟨w.heap.size, k * 2, none⟩ (ptr q)) (fun i => S i ∨ T i) (w.heap.size + 1) w.heap.size n n #[.int .i64 0, .bool false, .bool false, .int .i64 0] (l ++ [⟨q, st0, false⟩]) (zeroK (n - (k + 1))) from by
            have := HPP.out
            rw [show n - k = (n - (k + 1)) + 1 by omega] at this
            have h2 := this.push hq1 hq2 hw
            rw [HK.out.1] at h2
            exact h2)
          have HSN := hid (show ∀ i, (S i ∨ T i) → w.heap.size ≤ i from fun i hi => hi.elim (HSS.out i) (fun h => Nat.le_trans HBW.out.size (hq2 i h)))
          have HBN := hid (show Below w.heap.size w (wB.setCell ⟨w.heap.size, k * 2, none⟩ (ptr q)) from (HBW.out.trans ((show Below wr.heap.size wr wB from hw).mono HBW.out.size)).setCell (p := ⟨w.heap.size, k * 2, none⟩) (Nat.le_refl _) _)
          have HKN := hid (show (l ++ [(⟨q, st0, false⟩ : Kp)]).length = k + 1 ∧ ∀ x ∈ l ++ [(⟨q, st0, false⟩ : Kp)], x.st = st0 ∧ x.sus = false from ⟨by simp [HK.out.1], fun x hx => by
            rcases List.mem_append.1 hx with h | h
            · exact HK.out.2 x h
            · rw [List.mem_singleton] at h; subst h; exact ⟨rfl, rfl⟩⟩)
          obtain ⟨_, _, hrow, _⟩ := HPP.out
          have hrowB := row_below hrow hw
          have y1 := hrowB.cellAt (k * 2) (by omega)
          have y2 := hrowB.frozenAt (k * 2)
          obtain ⟨u0, hu0⟩ : ∃ u0, (l.flatMap kcells ++ zeroK (n - k))[k * 2]? = some u0 := ⟨_, List.getElem?_eq_getElem (by rw [List.length_append, kflat_len, zeroK_len, HK.out.1]; omega)⟩
          rw [hu0] at y1
          clear hv hw hq1 hq2 hrow hrowB hu0 c0 hlb HPP HSS HBW HK
          simp only [Tl.fill, List.drop_succ_cons, List.drop_zero]
          simp only [Act.put, List.setIfInBounds_toArray, List.set_cons_succ, List.set_cons_zero, v29, v31]
          clear v29 v31
          unfold ptr at *
          go_wp2_with fail
          go_roundg g1
          case measure => omega
          case rel => exact ⟨k + 1, _, _, by omega, by first | rfl | simp, HKN, HPN.out, HSN.out, HBN.out⟩
end Go.Proofs.YtmpgfpmkmgebdaaGreatDoor.W
