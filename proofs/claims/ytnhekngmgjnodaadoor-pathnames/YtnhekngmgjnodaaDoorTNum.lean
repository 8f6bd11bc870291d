/- What a tree is, over files as they lie; a map that tells what was met. -/
import Derived.Test.YtnhekngmgjnodaaDoorKids
import Derived.Test.YtnhekngmgjnodaaDoorRSteps
namespace Go.Proofs.YtnhekngmgjnodaaDoor
open Go.RowKit Go.Maps
open Pa
set_option linter.unusedVariables false
def lt (a b : ByteArray) : Bool := decide (a.data.toList < b.data.toList)
theorem bytesLess_eq : ∀ (x y : List UInt8), Op.bytesLess x y = decide (x < y)
  | [], [] => by simp [Op.bytesLess]
  | _ :: _, [] => by simp [Op.bytesLess]
  | [], _ :: _ => by simp [Op.bytesLess]
  | a :: r, b :: s => by
    rw [Op.bytesLess, bytesLess_eq r s, Bool.eq_iff_iff]
    simp [List.cons_lt_cons_iff]
theorem bl (a b : ByteArray) : Op.bytesLess a.toList b.toList = lt a b := by
  rw [ByteArray.toList_eq, ByteArray.toList_eq, bytesLess_eq]; rfl
theorem map_lt : ∀ (x y : List UInt8), x.map (fun b => b.toNat) < y.map (fun b => b.toNat) ↔ x < y
  | [], [] => by simp
  | _ :: _, [] => by simp
  | [], _ :: _ => by simp
  | a :: r, b :: s => by
    rw [List.map_cons, List.map_cons, List.cons_lt_cons_iff, List.cons_lt_cons_iff, map_lt r s]
    constructor
    · rintro (h | ⟨h1, h2⟩)
      · exact .inl h
      · exact .inr ⟨UInt8.toNat_inj.1 h1, h2⟩
    · rintro (h | ⟨rfl, h2⟩)
      · exact .inl h
      · exact .inr ⟨rfl, h2⟩
theorem lt_bs (a b : ByteArray) : lt a b = decide (bs a < bs b) := by
  unfold lt bs
  rw [Bool.eq_iff_iff, decide_eq_true_iff, decide_eq_true_iff, map_lt]
theorem geq_eq (a b : ByteArray) : (!(Op.bytesLess a.toList b.toList)) = !(lt a b) := by rw [bl]
theorem leq_eq (a b : ByteArray) : (Op.bytesLess a.toList b.toList || a.toList == b.toList) = !(lt b a) := by
  rw [bl, toLb]
  cases h : lt b a with
  | true =>
    have h1 : lt a b = false := by
      rw [lt_bs] at h ⊢
      exact decide_eq_false (fun h2 => List.lt_irrefl _ (List.lt_trans h2 (of_decide_eq_true h)))
    have h2 : ¬ a = b := by
      rintro rfl
      rw [lt_bs] at h
      exact List.lt_irrefl _ (of_decide_eq_true h)
    rw [h1, decide_eq_false h2]; rfl
  | false =>
    rw [lt_bs, decide_eq_false_iff_not, List.not_lt] at h
    by_cases h2 : a = b
    · rw [decide_eq_true h2, Bool.or_true]; rfl
    · have h3 : lt a b = true := by
        rw [lt_bs]
        refine decide_eq_true ?_
        by_cases h4 : bs a < bs b
        · exact h4
        · exact absurd (bs_inj (List.le_antisymm h (List.not_lt.1 h4))) h2
      rw [h3]; rfl
/-- what was met last at a path -/
def look (L : List Fl) (p : ByteArray) : Int := match L.reverse.find? (fun x => decide (x.path = p)) with
  | some x => kindN x.dir
  | none => 0
theorem look_snoc (L : List Fl) (x : Fl) (p : ByteArray) : look (L ++ [x]) p = if x.path = p then kindN x.dir else look L p := by
  unfold look
  rw [List.reverse_append, List.reverse_singleton, List.singleton_append, List.find?_cons]
  by_cases h : x.path = p
  · simp [h]
  · simp [h]
theorem kindN_or (b : Bool) : kindN b = 1 ∨ kindN b = 2 := by cases b <;> simp [kindN]
theorem look_two (L : List Fl) (p : ByteArray) : look L p = 2 → ∃ x ∈ L, x.path = p ∧ x.dir = true := by
  unfold look
  cases h : L.reverse.find? (fun x => decide (x.path = p)) with
  | none => intro h; cases h
  | some x =>
    intro h2
    have h3 := List.find?_some h
    have h4 := List.mem_of_find?_eq_some h
    refine ⟨x, by simpa using h4, by simpa using h3, ?_⟩
    cases hd : x.dir with
    | true => rfl
    | false =>
      have h5 : kindN x.dir = 2 := h2
      rw [hd] at h5; exact absurd h5 (by decide)
theorem look_one (L : List Fl) (p : ByteArray) (hn : ∀ x ∈ L, ∀ y ∈ L, x.path = p → y.path = p → x = y) : (∃ x ∈ L, x.path = p ∧ x.dir = true) → look L p = 2 := by
  rintro ⟨x, hx, h1, h2⟩
  unfold look
  cases h : L.reverse.find? (fun x => decide (x.path = p)) with
  | none =>
    have := List.find?_eq_none.1 h x (by simpa using hx)
    simp [h1] at this
  | some y =>
    have h3 := List.find?_some h
    have h4 := List.mem_of_find?_eq_some h
    have := hn x hx y (by simpa using h4) h1 (by simpa using h3)
    subst this
    show kindN x.dir = 2
    rw [h2]; rfl
/-- block b is a map that tells what was met -/
def KMap (w : World) (b : Nat) (L : List Fl) : Prop := ∃ D : DataW Unit, w.ownsMap Tryd.prog 9 (plainElem Tryd.prog 45) b L.length D ∧ Go.Maps.IsMap D ∧ ∀ s : ByteArray, D.atKey (.string s.data.toList) (.lit (.int .u8 0)) = .lit (.int .u8 (look L s))
theorem KMap.lt {w : World} {b : Nat} {L : List Fl} (h : KMap w b L) : b < w.heap.size := by
  obtain ⟨D, h1, _⟩ := h
  exact h1.lt
theorem KMap.below {w w' : World} {b : Nat} {L : List Fl} (h : KMap w b L) (hb : Below w.heap.size w w') : KMap w' b L := by
  have hl := h.lt
  obtain ⟨D, ⟨es, clock, h1, h2⟩, h3⟩ := h
  exact ⟨D, ⟨es, clock, by rw [hb.block b hl]; exact h1, h2⟩, h3⟩
theorem KMap.made (w : World) : KMap (w.alloc (.map #[] 0)) w.heap.size [] :=
  ⟨.map [], World.ownsMap_made _ _ _ _, ⟨_, rfl⟩, fun s => rfl⟩
theorem zero45 (w : World) : (zeroValue 45).run Tryd.prog w = .ok (.int .u8 0) w := by kernel_rfl
theorem KMap.look {w : World} {b : Nat} {L : List Fl} (h : KMap w b L) (s : ByteArray) (hs : s.size ≤ maxLen) : (Instr.lookup 43 (.map (some b)) (.string s) false).run Tryd.prog w = .ok (.int .u8 (look L s)) w := by
  obtain ⟨D, h1, h2, h3⟩ := h
  obtain ⟨c, hrun, hat, _⟩ := h1.lookup_int key9 Tryd.underlying43 Tryd.underlying45 (zero45 _) (keyOf9 hs)
  rw [h3 s] at hat
  have e : c = Go.Proofs.YtnhekngmgjnodaaDoor.look L s := by
    simp only [DataW.lit.injEq, Lit.int.injEq] at hat
    exact hat.2.symm
  rw [← e]; exact hrun
theorem KMap.put {w : World} {b : Nat} {L : List Fl} (h : KMap w b L) (hl : L.length < maxLen) (x : Fl) (hs : x.path.size ≤ maxLen) : ∃ w', (Instr.mapUpdate 43 (.map (some b)) (.string x.path) (.int .u8 (kindN x.dir))).run Tryd.prog w = .ok () w' ∧ KMap w' b (L ++ [x]) ∧ w.grownBy w' (some b) := by
  obtain ⟨D, h1, h2, h3⟩ := h
  have hwf : (Lit.int .u8 (kindN x.dir)).wf = true := by rcases kindN_or x.dir with h | h <;> rw [h] <;> decide
  obtain ⟨w', hrun, r1, r2⟩ := h1.update key9 Tryd.underlying43 hl (keyOf9 hs) (plainElem_int Tryd.underlying45 hwf)
  have hkl : WideAt.IsKeyLit (.string x.path.data.toList) := trivial
  refine ⟨w', hrun, ⟨_, by rw [List.length_append]; exact r1, h2.put _ _, fun t => ?_⟩, r2⟩
  rw [look_snoc]
  by_cases e : x.path = t
  · rw [if_pos e, ← e]
    exact Go.Maps.atKey_put_same h2 hkl _ _
  · rw [if_neg e]
    have hne : (Lit.string t.data.toList) ≠ .string x.path.data.toList := fun hh => e (by
      have h4 : t.data.toList = x.path.data.toList := by simpa using hh
      exact (ByteArray.ext (Array.toList_inj.1 h4)).symm)
    rw [Go.Maps.atKey_put_other hne]
    exact h3 t
/-- may the file at k stand there? by what was met -/
def okP (l : List Fl) (k : Nat) : Bool := mayB (l.getD k default).path && (holdB (l.getD k default) && ((decide (k = 0) || lt (l.getD (k - 1) default).path (l.getD k default).path) && (!abB (l.getD k default).path || decide (look (l.take k) (abU (l.getD k default).path) = 2))))
def treeP (l : List Fl) : Bool := decide (l.length ≤ 256) && (List.range l.length).all (okP l)
/-- the same by the document's words -/
def okR (l : List Fl) (k : Nat) : Bool := mayB (l.getD k default).path && ((decide (k = 0) || lt (l.getD (k - 1) default).path (l.getD k default).path) && (holdB (l.getD k default) && (!abB (l.getD k default).path || dirB l (abU (l.getD k default).path))))
def treeR (l : List Fl) : Bool := decide (l.length ≤ 256) && (List.range l.length).all (okR l)
theorem all_snoc (f : Nat → Bool) (k : Nat) : (List.range (k + 1)).all f = ((List.range k).all f && f k) := by
  rw [List.range_succ, List.all_append]; simp
theorem all_not {f : Nat → Bool} {n k : Nat} (hk : k < n) (h : f k = false) : (List.range n).all f = false := by
  rw [List.all_eq_false]
  exact ⟨k, List.mem_range.2 hk, by rw [h]; simp⟩
theorem lt_tr {a b c : ByteArray} (h1 : lt a b = true) (h2 : lt b c = true) : lt a c = true := by
  rw [lt_bs, decide_eq_true_iff] at *; exact List.lt_trans h1 h2
theorem lt_ir (a : ByteArray) : lt a a = false := by rw [lt_bs]; exact decide_eq_false (List.lt_irrefl _)
/-- paths that rise from one to the next rise -/
theorem rise_all {l : List Fl} {n : Nat} (h : ∀ k, k < n → k = 0 ∨ lt (l.getD (k - 1) default).path (l.getD k default).path = true) : ∀ i j, i < j → j < n → lt (l.getD i default).path (l.getD j default).path = true := by
  intro i j hij
  induction j with
  | zero => omega
  | succ j ih =>
    intro hj
    have h1 := (h (j + 1) hj).resolve_left (by omega)
    rw [Nat.add_sub_cancel] at h1
    by_cases hi : i = j
    · subst hi; exact h1
    · exact lt_tr (ih (by omega) (by omega)) h1
theorem above_less {p : ByteArray} (h : abB p = true) : lt (abU p) p = true := by
  unfold abB at h
  cases ha : above (bs p) with
  | none => rw [ha] at h; cases h
  | some u =>
    rw [(abU_some ha).1, lt_bs, bs_ofBs u (above_lt256 ha)]
    exact decide_eq_true (above_lt ha)
theorem mem_at {l : List Fl} {x : Fl} (h : x ∈ l) : ∃ j, j < l.length ∧ l.getD j default = x := by
  obtain ⟨j, hj, rfl⟩ := List.getElem_of_mem h
  exact ⟨j, hj, by rw [List.getD_eq_getElem?_getD, List.getElem?_eq_getElem hj]; rfl⟩
theorem mem_take_at {l : List Fl} {k : Nat} {x : Fl} (h : x ∈ l.take k) : ∃ j, j < k ∧ j < l.length ∧ l.getD j default = x := by
  obtain ⟨j, hj, e⟩ := mem_at h
  rw [List.length_take] at hj
  refine ⟨j, by omega, by omega, ?_⟩
  rw [← e, List.getD_eq_getElem?_getD, List.getD_eq_getElem?_getD, List.getElem?_take_of_lt (by omega)]
theorem at_take {l : List Fl} {k j : Nat} (hj : j < k) (hl : j < l.length) : l.getD j default ∈ l.take k := by
  have e : (l.take k).getD j default = l.getD j default := by
    rw [List.getD_eq_getElem?_getD, List.getD_eq_getElem?_getD, List.getElem?_take_of_lt hj]
  rw [← e]
  exact getF_mem (by rw [List.length_take]; omega)
/-- of lists whose paths rise, what was met tells whether it is a directory's path -/
theorem look_dir {l : List Fl} (hr : ∀ i j, i < j → j < l.length → lt (l.getD i default).path (l.getD j default).path = true) {k : Nat} (hk : k < l.length) (hb : abB (l.getD k default).path = true) :
    decide (look (l.take k) (abU (l.getD k default).path) = 2) = dirB l (abU (l.getD k default).path) := by
  have hu := above_less hb
  generalize abU (l.getD k default).path = u at *
  have hinj : ∀ i j, i < l.length → j < l.length → (l.getD i default).path = (l.getD j default).path → i = j := by
    intro i j hi hj e
    by_cases h1 : i < j
    · have := hr i j h1 hj; rw [e, lt_ir] at this; cases this
    · by_cases h2 : j < i
      · have := hr j i h2 hi; rw [e, lt_ir] at this; cases this
      · omega
  rw [Bool.eq_iff_iff, decide_eq_true_iff]
  unfold dirB
  rw [List.any_eq_true]
  constructor
  · intro h
    obtain ⟨x, hx, h1, h2⟩ := look_two _ _ h
    exact ⟨x, List.mem_of_mem_take hx, by simp [h1, h2]⟩
  · rintro ⟨x, hx, h⟩
    have h1 : x.path = u ∧ x.dir = true := by simpa using h
    refine look_one _ _ (fun y hy z hz e1 e2 => ?_) ⟨x, ?_, h1⟩
    · obtain ⟨i, _, hi, rfl⟩ := mem_take_at hy
      obtain ⟨j, _, hj, rfl⟩ := mem_take_at hz
      rw [hinj i j hi hj (e1.trans e2.symm)]
    · obtain ⟨j, hj, rfl⟩ := mem_at hx
      refine at_take ?_ hj
      by_cases h3 : j < k
      · exact h3
      · exfalso
        by_cases h4 : j = k
        · subst h4; rw [h1.1, lt_ir] at hu; cases hu
        · have := hr k j (by omega) hj
          rw [h1.1] at this
          have h5 := lt_tr this hu
          rw [lt_ir] at h5; cases h5
theorem tree_rise {l : List Fl} {f : Nat → Bool} (hf : ∀ k, f k = true → k = 0 ∨ lt (l.getD (k - 1) default).path (l.getD k default).path = true) (h : (List.range l.length).all f = true) : ∀ i j, i < j → j < l.length → lt (l.getD i default).path (l.getD j default).path = true :=
  rise_all (fun k hk => hf k (List.all_eq_true.1 h k (List.mem_range.2 hk)))
theorem okP_rise {l : List Fl} (k : Nat) (h : okP l k = true) : k = 0 ∨ lt (l.getD (k - 1) default).path (l.getD k default).path = true := by
  unfold okP at h
  rw [Bool.and_eq_true, Bool.and_eq_true, Bool.and_eq_true, Bool.or_eq_true, decide_eq_true_iff] at h
  exact h.2.2.1
theorem okR_rise {l : List Fl} (k : Nat) (h : okR l k = true) : k = 0 ∨ lt (l.getD (k - 1) default).path (l.getD k default).path = true := by
  unfold okR at h
  rw [Bool.and_eq_true, Bool.and_eq_true, Bool.and_eq_true, Bool.or_eq_true, decide_eq_true_iff] at h
  exact h.2.1
theorem ok_same {l : List Fl} (hr : ∀ i j, i < j → j < l.length → lt (l.getD i default).path (l.getD j default).path = true) {k : Nat} (hk : k < l.length) : okP l k = okR l k := by
  have : (!abB (l.getD k default).path || decide (look (l.take k) (abU (l.getD k default).path) = 2)) = (!abB (l.getD k default).path || dirB l (abU (l.getD k default).path)) := by
    cases hb : abB (l.getD k default).path with
    | false => rfl
    | true => rw [look_dir hr hk hb]
  unfold okP okR
  rw [this]
  cases mayB (l.getD k default).path <;> cases holdB (l.getD k default) <;> simp
theorem tree_same (l : List Fl) : treeP l = treeR l := by
  unfold treeP treeR
  congr 1
  rw [Bool.eq_iff_iff]
  constructor
  · intro h
    have hr := tree_rise okP_rise h
    rw [List.all_eq_true] at h ⊢
    intro k hk
    rw [← ok_same hr (List.mem_range.1 hk)]
    exact h k hk
  · intro h
    have hr := tree_rise okR_rise h
    rw [List.all_eq_true] at h ⊢
    intro k hk
    rw [ok_same hr (List.mem_range.1 hk)]
    exact h k hk
end Go.Proofs.YtnhekngmgjnodaaDoor
