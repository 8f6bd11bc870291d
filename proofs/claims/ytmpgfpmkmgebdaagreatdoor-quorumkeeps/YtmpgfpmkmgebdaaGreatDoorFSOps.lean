/- What single operations do, over any frame. -/
import Derived.WalkKit
import Derived.WalkSpells
import Derived.Orders
import Derived.Test.YtmpgfpmkmgebdaaGreatDoorFSWrit
/- A region that draws its order: operations in whatever order, each with what its slot then holds, and behind all of them others, one behind the other. No program in it. -/
namespace Go.Proofs.YtmpgfpmkmgebdaaGreatDoor.F
open Go.RowKit
namespace Tl
/-- how many operations are still to come -/
def toCome (n : Nat) (listed : Array Bool) : Nat := (List.range n).countP fun i => !listed.getD i true
theorem countP_lt {α : Type} (l : List α) (p q : α → Bool) (h : ∀ x ∈ l, q x = true → p x = true) (x : α) (hx : x ∈ l) (hp : p x = true) (hq : q x = false) : l.countP q < l.countP p := by
  induction l with
  | nil => cases hx
  | cons y l ih =>
    have hle : l.countP q ≤ l.countP p := List.countP_mono_left (fun z hz => h z (List.mem_cons_of_mem _ hz))
    rcases List.mem_cons.1 hx with rfl | hx'
    · rw [List.countP_cons_of_pos hp, List.countP_cons_of_neg (by simp [hq])]
      omega
    · have := ih (fun z hz => h z (List.mem_cons_of_mem _ hz)) hx'
      cases hqy : q y
      · rw [List.countP_cons_of_neg (by simp [hqy])]
        cases hpy : p y
        · rw [List.countP_cons_of_neg (by simp [hpy])]; exact this
        · rw [List.countP_cons_of_pos hpy]; omega
      · rw [List.countP_cons_of_pos hqy, List.countP_cons_of_pos (h y (List.mem_cons_self) hqy)]; omega
theorem ready_facts {ops : Array Oper} {listed : Array Bool} {i : Nat} (h : i ∈ Region.ready .any ops listed) : i < ops.size ∧ listed.getD i true = false ∧ ∀ o, ops[i]? = some o → ∀ e ∈ o.after, Region.binds .any e = true → listed.getD e.on false = true := by
  simp only [Region.ready, List.mem_filter, List.mem_range, Bool.and_eq_true, Bool.not_eq_true'] at h
  refine ⟨h.1, h.2.1, fun o ho e he hb => ?_⟩
  have h2 := h.2.2
  rw [ho] at h2
  simp only [Option.map_some, Option.getD_some] at h2
  have h3 := (Array.all_eq_true'.1 h2) e he
  simpa [hb] using h3
theorem wpAny_inv {P : Program} {ops : Array Oper} {Q : Exit → Act → World → Prop} (I : Array Bool → Act → World → Prop) (hsz : ∀ l a w, I l a w → l.size = ops.size)
    (hstep : ∀ l a w, I l a w → ∀ i, i ∈ Region.ready .any ops l → wpOp P ops Q i (fun a' w' => I (l.setIfInBounds i true) a' w') a w)
    (hdone : ∀ l a w, I l a w → Region.ready .any ops l = [] → Q .normal a w) :
    ∀ (fuel : Nat) (l : Array Bool) (a : Act) (w : World), I l a w → toCome ops.size l ≤ fuel → wpAny P .any ops Q fuel l a w := by
  intro fuel
  induction fuel with
  | zero =>
    intro l a w h hl
    have hr : Region.ready .any ops l = [] := by
      cases hr : Region.ready .any ops l with
      | nil => rfl
      | cons i rs =>
        have hi : i ∈ Region.ready .any ops l := by rw [hr]; exact List.mem_cons_self
        obtain ⟨h1, h2, _⟩ := ready_facts hi
        have : 0 < toCome ops.size l := List.countP_pos_iff.2 ⟨i, List.mem_range.2 h1, by simp [h2]⟩
        omega
    exact ⟨hr, hdone l a w h hr⟩
  | succ fuel ih =>
    intro l a w h hl
    refine ⟨hdone l a w h, fun i hi => ?_⟩
    refine wpOp_mono (fun a' w' h' => ih _ a' w' h' ?_) (hstep l a w h i hi)
    obtain ⟨h1, h2, _⟩ := ready_facts hi
    have hs := hsz l a w h
    have : toCome ops.size (l.setIfInBounds i true) < toCome ops.size l := by
      refine countP_lt _ _ _ (fun j _ hj => ?_) i (List.mem_range.2 h1) (by simp [h2]) ?_
      · by_cases hji : i = j
        · subst hji; simp [h2]
        · simpa [Array.getD_eq_getD_getElem?, Array.getElem?_setIfInBounds_ne hji] using hj
      · simp [Array.getD_eq_getD_getElem?, hs, h1]
    omega
def dstOf (ops : Array Oper) (j : Nat) : Option Nat := ops[j]?.bind (·.dst)
/-- the slots that an operation looks at, its guard's with them -/
def looks (ops : Array Oper) (o : Oper) : List Nat :=
  (o.op.operands.toList.filterMap fun | .tmp t => some t | _ => none) ++ (match o.guard with | some (g, _) => (dstOf ops g).toList | none => [])
/-- the first h may be run in whatever order; behind them each waits for all ahead of it -/
def tailB (ops : Array Oper) (h : Nat) (ds : List Nat) (N : Nat) : Bool :=
  decide (h ≤ ops.size) && (ds == (List.range h).filterMap (dstOf ops)) && (ds.all fun d => decide (d < N)) &&
  (List.range ops.size).all fun i => match ops[i]? with
    | none => false
    | some o => (o.after.all fun e => decide (e.on < i)) &&
      (if i < h then o.dst.isSome && ((List.range h).all fun j => i == j || dstOf ops j != o.dst) &&
          ((looks ops o).all fun d => (!ds.contains d) || o.after.any fun e => Region.binds .any e && decide (e.on < h) && (dstOf ops e.on == some d))
       else (List.range i).all fun j => o.after.any fun e => Region.binds .any e && e.on == j)
theorem getD_put {a : Act} {s d : Nat} {v : Value} (h : d ≠ s) : (a.put (some s) v).tmps.getD d undef = a.tmps.getD d undef := by
  simp [Act.put, Array.getD_eq_getD_getElem?, Array.getElem?_setIfInBounds_ne (Ne.symm h)]
theorem getD_put_same {a : Act} {s : Nat} {v : Value} (h : s < a.tmps.size) : (a.put (some s) v).tmps.getD s undef = v := by
  simp [Act.put, Array.getD_eq_getD_getElem?, h]
/-- the frame with these slots filled -/
def fill (a : Act) (v : Nat → Value) : List Nat → Act
  | [] => a
  | d :: ds => fill (a.put (some d) (v d)) v ds
theorem fill_size (v : Nat → Value) : ∀ (ds : List Nat) (a : Act), (fill a v ds).tmps.size = a.tmps.size
  | [], _ => rfl
  | d :: ds, a => by rw [fill, fill_size v ds]; simp [Act.put]
theorem fill_defers (v : Nat → Value) : ∀ (ds : List Nat) (a : Act), (fill a v ds).defers = a.defers
  | [], _ => rfl
  | d :: ds, a => by rw [fill, fill_defers v ds]; simp [Act.put]
theorem fill_get (v : Nat → Value) (x : Nat) : ∀ (ds : List Nat) (a : Act), (∀ d ∈ ds, d < a.tmps.size) → (fill a v ds).tmps.getD x undef = if x ∈ ds then v x else a.tmps.getD x undef
  | [], _, _ => by simp [fill]
  | d :: ds, a, h => by
    have hd := h d List.mem_cons_self
    rw [fill, fill_get v x ds _ (fun d' hd' => by simpa [Act.put] using h d' (List.mem_cons_of_mem _ hd'))]
    by_cases h1 : x ∈ ds
    · rw [if_pos h1, if_pos (List.mem_cons_of_mem _ h1)]
    · rw [if_neg h1]
      by_cases h2 : x = d
      · subst h2; rw [getD_put_same hd, if_pos List.mem_cons_self]
      · rw [getD_put h2, if_neg (by simp [h1, h2])]
theorem act_ext {a b : Act} (hs : a.tmps.size = b.tmps.size) (hd : a.defers = b.defers) (h : ∀ d, a.tmps.getD d undef = b.tmps.getD d undef) : a = b := by
  have e : a.tmps = b.tmps := by
    apply Array.ext hs
    intro i h1 h2
    have := h i
    simpa [Array.getD_eq_getD_getElem?, h1, h2] using this
  cases a; cases b
  simp only at e hd
  subst e hd
  rfl
theorem wp_region_tail {P : Program} {ops : Array Oper} {Q : Exit → Act → World → Prop} {id : Nat} {a : Act} {w : World} (hm : P.follows .mixedOrders = true) (h : Nat) (ds : List Nat) (N : Nat) (hN : a.tmps.size = N) (hB : tailB ops h ds N = true)
    (C : World → Prop) (F : Nat → Value → World → Prop) (hmono : ∀ d v w w', F d v w → Below w.heap.size w w' → F d v w') (hC : C w.drew)
    (hstep : ∀ (i : Nat) (o : Oper), ops[i]? = some o → i < h → ∀ a' w', C w' → (∀ d ∈ looks ops o, (d ∈ ds → F d (a'.tmps.getD d undef) w') ∧ (d ∉ ds → a'.tmps.getD d undef = a.tmps.getD d undef)) →
      if Region.wanted o (yielded ops a'.tmps) = true then o.wp P a' w' (fun a'' w'' => ∃ v, a'' = a'.put o.dst v ∧ C w'' ∧ Below w'.heap.size w' w'' ∧ ∀ d, o.dst = some d → F d v w'') Q else ∀ d, o.dst = some d → F d undef w')
    (hlast : ∀ (v : Nat → Value) w', C w' → (∀ d ∈ ds, F d (v d) w') → wpList P ops Q (ops.toList.drop h) (fill a v ds) w') : (Code.region id ops true).wp P Q a w := by
  unfold tailB at hB
  simp only [Bool.and_eq_true, decide_eq_true_eq, beq_iff_eq, List.all_eq_true, List.mem_range] at hB
  obtain ⟨⟨⟨hle, hds⟩, hdN⟩, hall⟩ := hB
  have hds' : ∀ d, d ∈ ds ↔ ∃ j, j < h ∧ dstOf ops j = some d := fun d => by
    rw [hds]; simp [List.mem_filterMap]
  have hafter : ∀ (i : Nat) (o : Oper), ops[i]? = some o → ∀ e ∈ o.after, e.on < i := fun i o ho e he => by
    have hi : i < ops.size := (Array.getElem?_eq_some_iff.1 ho).1
    have := hall i hi
    rw [ho] at this
    simp only [Bool.and_eq_true] at this
    simpa using (Array.all_eq_true'.1 this.1) e he
  have hhead : ∀ (i : Nat) (o : Oper), ops[i]? = some o → i < h → (∃ d, o.dst = some d) ∧ (∀ j, j < h → j ≠ i → dstOf ops j ≠ o.dst) ∧ (∀ d ∈ looks ops o, d ∈ ds → ∃ e ∈ o.after, Region.binds .any e = true ∧ e.on < h ∧ dstOf ops e.on = some d) := fun i o ho hlt => by
    have hi : i < ops.size := (Array.getElem?_eq_some_iff.1 ho).1
    have := hall i hi
    rw [ho] at this
    simp only [Bool.and_eq_true, if_pos hlt, List.all_eq_true, List.mem_range, Bool.or_eq_true, beq_iff_eq, bne_iff_ne, Bool.not_eq_true'] at this
    obtain ⟨_, ⟨h1, h2⟩, h3⟩ := this
    refine ⟨Option.isSome_iff_exists.1 h1, fun j hj hne => ?_, fun d hd hdm => ?_⟩
    · rcases h2 j hj with h | h
      · exact absurd h.symm hne
      · exact h
    · rcases h3 d hd with h | h
      · rw [← Bool.not_eq_true] at h; exact absurd (by simpa using hdm) h
      · obtain ⟨e, he, hh⟩ := Array.any_eq_true'.1 h
        simp only [Bool.and_eq_true, beq_iff_eq, decide_eq_true_eq] at hh
        exact ⟨e, he, hh.1.1, hh.1.2, hh.2⟩
  have htail : ∀ (i : Nat) (o : Oper), ops[i]? = some o → ¬ i < h → ∀ j, j < i → ∃ e ∈ o.after, Region.binds .any e = true ∧ e.on = j := fun i o ho hlt j hj => by
    have hi : i < ops.size := (Array.getElem?_eq_some_iff.1 ho).1
    have := hall i hi
    rw [ho] at this
    simp only [Bool.and_eq_true, if_neg hlt, List.all_eq_true, List.mem_range] at this
    obtain ⟨e, he, hh⟩ := Array.any_eq_true'.1 (this.2 j hj)
    simp only [Bool.and_eq_true, beq_iff_eq] at hh
    exact ⟨e, he, hh.1, hh.2⟩
  have hset : ∀ (l : Array Bool) (i j : Nat), i ≠ j → (l.setIfInBounds i true).getD j false = l.getD j false := fun l i j h => by
    simp [Array.getD_eq_getD_getElem?, Array.getElem?_setIfInBounds_ne h]
  have hset1 : ∀ (l : Array Bool) (i : Nat), i < l.size → (l.setIfInBounds i true).getD i false = true := fun l i h => by
    simp [Array.getD_eq_getD_getElem?, h]
  have hft : ∀ (l : Array Bool) (i : Nat), l.getD i true = false → l.getD i false = false := fun l i h => by
    by_cases hi : i < l.size
    · simpa [Array.getD_eq_getD_getElem?, hi] using h
    · simp [Array.getD_eq_getD_getElem?, hi] at h
  have hdone : ∀ l : Array Bool, l.size = ops.size → Region.ready .any ops l = [] → ∀ i, i < ops.size → l.getD i false = true := fun l hl hr i => by
    induction i using Nat.strongRecOn with
    | _ i ih =>
      intro hi
      cases hq : l.getD i false with
      | true => rfl
      | false =>
        exfalso
        obtain ⟨o, ho⟩ : ∃ o, ops[i]? = some o := ⟨_, Array.getElem?_eq_getElem hi⟩
        have hq' : l.getD i true = false := by
          rw [Array.getD_eq_getD_getElem?, Array.getElem?_eq_getElem (by omega)] at hq ⊢; exact hq
        have hm : i ∈ Region.ready .any ops l := by
          simp only [Region.ready, List.mem_filter, List.mem_range, Bool.and_eq_true, Bool.not_eq_true']
          refine ⟨hi, hq', ?_⟩
          rw [ho]
          simp only [Option.map_some, Option.getD_some]
          refine Array.all_eq_true'.2 fun e he => ?_
          have := hafter i o ho e he
          simp [ih e.on this (by omega)]
        rw [hr] at hm; cases hm
  let FrA : Array Bool → Act → World → Prop := fun l a' w' => C w' ∧ a'.tmps.size = a.tmps.size ∧ a'.defers = a.defers ∧ (∀ d, (∀ j, j < h → l.getD j false = true → dstOf ops j ≠ some d) → a'.tmps.getD d undef = a.tmps.getD d undef) ∧
    (∀ j, j < h → l.getD j false = true → ∀ d, dstOf ops j = some d → F d (a'.tmps.getD d undef) w')
  have hfull : ∀ l a' w', FrA l a' w' → (∀ j, j < h → l.getD j false = true) → wpList P ops Q (ops.toList.drop h) a' w' := fun l a' w' hA hl => by
    obtain ⟨f1, f2, f3, f4, f5⟩ := hA
    have ea : a' = fill a (fun d => a'.tmps.getD d undef) ds := by
      refine act_ext (by rw [fill_size, f2]) (by rw [fill_defers, f3]) fun d => ?_
      rw [fill_get _ _ ds a (fun d hd => by rw [hN]; simpa using hdN d hd)]
      by_cases hd : d ∈ ds
      · rw [if_pos hd]
      · rw [if_neg hd]
        exact f4 d fun j hj _ he => hd ((hds' d).2 ⟨j, hj, he⟩)
    have := hlast (fun d => a'.tmps.getD d undef) w' f1 fun d hd => by
      obtain ⟨j, hj, he⟩ := (hds' d).1 hd
      exact f5 j hj (hl j hj) d he
    rw [← ea] at this
    exact this
  let I : Array Bool → Act → World → Prop := fun l a' w' => l.size = ops.size ∧ (((∀ t, h ≤ t → l.getD t false = false) ∧ FrA l a' w') ∨ (∃ k, h < k ∧ k ≤ ops.size ∧ (∀ t, t < k → l.getD t false = true) ∧ (∀ t, k ≤ t → l.getD t false = false) ∧ wpList P ops Q (ops.toList.drop k) a' w'))
  have hseq : ∀ (k : Nat) (l : Array Bool) (a' : Act) (w' : World), l.size = ops.size → h ≤ k → k < ops.size → (∀ t, t < k → l.getD t false = true) → (∀ t, k ≤ t → l.getD t false = false) → wpList P ops Q (ops.toList.drop k) a' w' → wpOp P ops Q k (fun a'' w'' => I (l.setIfInBounds k true) a'' w'') a' w' := fun k l a' w' hl hk1 hk2 g1 g2 hw => by
    obtain ⟨o, ho⟩ : ∃ o, ops[k]? = some o := ⟨_, Array.getElem?_eq_getElem hk2⟩
    have ed : ops.toList.drop k = o :: ops.toList.drop (k + 1) := by
      rw [List.drop_eq_getElem_cons (by simpa using hk2)]
      congr 1
      have := (Array.getElem?_eq_some_iff.1 ho).2
      simpa using this
    rw [ed] at hw
    have hnext : ∀ a'' w'', wpList P ops Q (ops.toList.drop (k + 1)) a'' w'' → I (l.setIfInBounds k true) a'' w'' := fun a'' w'' hh =>
      ⟨by simpa using hl, .inr ⟨k + 1, by omega, by omega, fun t ht => by
        by_cases htk : t = k
        · subst htk; exact hset1 _ _ (by omega)
        · rw [hset _ _ _ (by omega)]; exact g1 t (by omega), fun t ht => by rw [hset _ _ _ (by omega)]; exact g2 t (by omega), hh⟩⟩
    unfold wpOp
    rw [ho]
    simp only []
    unfold wpList at hw
    split
    · rename_i hwn
      rw [if_pos hwn] at hw
      rcases hw with hw | hw
      · exact .inl (Oper.wp_mono hnext hw)
      · exact .inr hw
    · rename_i hwn
      rw [if_neg hwn] at hw
      exact hnext _ _ hw
  refine wp_region_any hm (wpAny_inv I (fun l a' w' h => h.1) ?_ ?_ ops.size _ a w.drew ?_ ?_)
  · intro l a' w' hI i hi
    obtain ⟨i1, i2⟩ := hI
    obtain ⟨r1, r2, r3⟩ := ready_facts hi
    obtain ⟨o, ho⟩ : ∃ o, ops[i]? = some o := ⟨_, Array.getElem?_eq_getElem r1⟩
    rcases i2 with ⟨n1, hA⟩ | ⟨k, k1, k2, k3, k4, k5⟩
    · by_cases hlt : i < h
      · obtain ⟨f1, f2, f3, f4, f5⟩ := hA
        obtain ⟨⟨di, hdi⟩, hdist, hlk⟩ := hhead i o ho hlt
        have hdsi : dstOf ops i = some di := by unfold dstOf; rw [ho]; exact hdi
        have hdiN : di < a.tmps.size := by rw [hN]; simpa using hdN di ((hds' di).2 ⟨i, hlt, hdsi⟩)
        have hs := hstep i o ho hlt a' w' f1 fun d hd => ⟨fun hdm => by
            obtain ⟨e, he, hb, heh, hed⟩ := hlk d hd hdm
            exact f5 e.on heh (r3 o ho e he hb) d hed, fun hdm => f4 d fun j hj _ he => hdm ((hds' d).2 ⟨j, hj, he⟩)⟩
        have hput : ∀ v w'', C w'' → Below w'.heap.size w' w'' → F di v w'' → I (l.setIfInBounds i true) (a'.put o.dst v) w'' := fun v w'' c1 c2 c3 => by
          rw [hdi]
          refine ⟨by simpa using i1, .inl ⟨fun t ht => by rw [hset _ _ _ (by omega)]; exact n1 t ht, c1, by simpa [Act.put] using f2, f3, fun d hd => ?_, fun j hj hjl d hjd => ?_⟩⟩
          · have hne : d ≠ di := fun e => hd i hlt (hset1 _ _ (by omega)) (by rw [e]; exact hdsi)
            rw [getD_put hne]
            refine f4 d fun j hj hjl => ?_
            by_cases hij : i = j
            · subst hij; rw [hft _ _ r2] at hjl; cases hjl
            · exact hd j hj (by rw [hset _ _ _ hij]; exact hjl)
          · by_cases hij : i = j
            · subst hij
              rw [hdsi] at hjd; cases hjd
              rw [getD_put_same (by rw [f2]; exact hdiN)]; exact c3
            · have hne : d ≠ di := fun e => hdist j hj (Ne.symm hij) (by rw [hjd, e, hdi])
              rw [getD_put hne]
              rw [hset _ _ _ hij] at hjl
              exact hmono _ _ _ _ (f5 j hj hjl d hjd) c2
        unfold wpOp
        rw [ho]
        simp only []
        by_cases hw : Region.wanted o (yielded ops a'.tmps) = true
        · rw [if_pos hw] at hs ⊢
          refine .inl (Oper.wp_mono (fun a'' w'' hh => ?_) hs)
          obtain ⟨v, rfl, c1, c2, c3⟩ := hh
          exact hput v w'' c1 c2 (c3 _ hdi)
        · rw [if_neg hw] at hs ⊢
          exact hput undef w' f1 (Below.refl _ _) (hs _ hdi)
      · have hall' : ∀ j, j < i → l.getD j false = true := fun j hj => by
          obtain ⟨e, he, hb, hej⟩ := htail i o ho hlt j hj
          rw [← hej]; exact r3 o ho e he hb
        have hih : i = h := by
          by_cases hih : i = h
          · exact hih
          · have := hall' h (by omega)
            rw [n1 h (Nat.le_refl _)] at this; cases this
        subst hih
        exact hseq i l a' w' i1 (Nat.le_refl _) r1 hall' n1 (hfull l a' w' hA hall')
    · have hik : i = k := by
        have h1 : ¬ i < k := fun hlt => by have := k3 i hlt; rw [hft _ _ r2] at this; cases this
        by_cases hik : i = k
        · exact hik
        · obtain ⟨e, he, hb, hej⟩ := htail i o ho (by omega) k (by omega)
          have := r3 o ho e he hb
          rw [hej, k4 k (Nat.le_refl _)] at this; cases this
      subst hik
      exact hseq i l a' w' i1 (by omega) r1 k3 k4 k5
  · intro l a' w' hI hr
    obtain ⟨i1, i2⟩ := hI
    have hd := hdone l i1 hr
    rcases i2 with ⟨n1, hA⟩ | ⟨k, k1, k2, k3, k4, k5⟩
    · have hsz : h = ops.size := by
        by_cases hlt : h < ops.size
        · have := hd h hlt; rw [n1 h (Nat.le_refl _)] at this; cases this
        · omega
      have := hfull l a' w' hA fun j hj => hd j (by omega)
      rw [List.drop_of_length_le (by simp [hsz])] at this
      exact this
    · have hsz : k = ops.size := by
        by_cases hlt : k < ops.size
        · have := hd k hlt; rw [k4 k (Nat.le_refl _)] at this; cases this
        · omega
      rw [List.drop_of_length_le (by simp [hsz])] at k5
      exact k5
  · have hz : ∀ i, (Array.replicate ops.size false).getD i false = false := fun i => by
      by_cases hi : i < ops.size
      · simp [Array.getD_eq_getD_getElem?, hi]
      · simp [Array.getD_eq_getD_getElem?, hi]
    exact ⟨by simp, .inl ⟨fun t _ => hz t, hC, rfl, rfl, fun _ _ => rfl, fun j _ hj => by rw [hz] at hj; cases hj⟩⟩
  · exact Nat.le_trans List.countP_le_length (by simp)
/-- each of them -/
def AllL (p : Oper → Prop) : List Oper → Prop
  | [] => True
  | o :: l => p o ∧ AllL p l
theorem AllL.get {p : Oper → Prop} : ∀ {l : List Oper}, AllL p l → ∀ (i : Nat) (o : Oper), l[i]? = some o → p o
  | [], _, i, o, h => by simp at h
  | x :: l, h, 0, o, ho => by simp at ho; subst ho; exact h.1
  | x :: l, h, i + 1, o, ho => AllL.get h.2 i o (by simpa using ho)
/-- what one operation must do -/
def StepP (P : Program) (Q : Exit → Act → World → Prop) (ops : Array Oper) (ds : List Nat) (a : Act) (C : World → Prop) (F : Nat → Value → World → Prop) (o : Oper) : Prop :=
  ∀ a' w', C w' → (∀ d ∈ looks ops o, (d ∈ ds → F d (a'.tmps.getD d undef) w') ∧ (d ∉ ds → a'.tmps.getD d undef = a.tmps.getD d undef)) →
      if Region.wanted o (yielded ops a'.tmps) = true then o.wp P a' w' (fun a'' w'' => ∃ v, a'' = a'.put o.dst v ∧ C w'' ∧ Below w'.heap.size w' w'' ∧ ∀ d, o.dst = some d → F d v w'') Q else ∀ d, o.dst = some d → F d undef w'
theorem wp_tail_lit {P : Program} {l : List Oper} {Q : Exit → Act → World → Prop} {id : Nat} {a : Act} {w : World} (hm : P.follows .mixedOrders = true) (h : Nat) (ds : List Nat) (N : Nat) (hN : a.tmps.size = N) (hB : tailB l.toArray h ds N = true)
    (C : World → Prop) (F : Nat → Value → World → Prop) (hmono : ∀ d v w w', F d v w → Below w.heap.size w w' → F d v w') (hC : C w.drew)
    (hstep : AllL (StepP P Q l.toArray ds a C F) (l.take h))
    (hlast : ∀ (v : Nat → Value) w', C w' → (∀ d ∈ ds, F d (v d) w') → wpList P l.toArray Q (l.drop h) (fill a v ds) w') : (Code.region id l.toArray true).wp P Q a w :=
  wp_region_tail hm h ds N hN hB C F hmono hC (fun i o ho hi => hstep.get i o (by rw [List.getElem?_take_of_lt hi]; simpa using ho)) hlast
theorem wanted_none {o : Oper} {y : Nat → Option Bool} (h : o.guard = none) : Region.wanted o y = true := by simp [Region.wanted, h]
/-- an operation that yields a value -/
theorem st_val {P : Program} {Q : Exit → Act → World → Prop} {ops : Array Oper} {C : World → Prop} {F : Nat → Value → World → Prop} {o : Oper} {a : Act} {w w' : World} (d : Nat) (v : Value) (hd : o.dst = some d) (hw : Region.wanted o (yielded ops a.tmps) = true) (hr : (execOp a.eval o).run P w = .ok (.value v) w') (hC : C w') (hb : Below w.heap.size w w') (hF : F d v w') :
    if Region.wanted o (yielded ops a.tmps) = true then o.wp P a w (fun a'' w'' => ∃ v, a'' = a.put o.dst v ∧ C w'' ∧ Below w.heap.size w w'' ∧ ∀ d, o.dst = some d → F d v w'') Q else ∀ d, o.dst = some d → F d undef w := by
  rw [if_pos hw]
  unfold Oper.wp
  rw [hr]
  exact ⟨v, rfl, hC, hb, fun d' h' => by rw [hd] at h'; cases h'; exact hF⟩
/-- one that yields a value, and leaves the memory as it is -/
theorem st_v {P : Program} {Q : Exit → Act → World → Prop} {ops : Array Oper} {C : World → Prop} {F : Nat → Value → World → Prop} {o : Oper} {a : Act} {w : World} (d : Nat) (v : Value) (hd : o.dst = some d) (hg : o.guard = none) (hC : C w) (hF : F d v w) (hr : (execOp a.eval o).run P w = .ok (.value v) w) :
    if Region.wanted o (yielded ops a.tmps) = true then o.wp P a w (fun a'' w'' => ∃ v, a'' = a.put o.dst v ∧ C w'' ∧ Below w.heap.size w w'' ∧ ∀ d, o.dst = some d → F d v w'') Q else ∀ d, o.dst = some d → F d undef w :=
  st_val d v hd (wanted_none hg) hr hC (Below.refl _ _) hF
/-- an operation that calls a function -/
theorem st_call {P : Program} {Q : Exit → Act → World → Prop} {ops : Array Oper} {C : World → Prop} {F : Nat → Value → World → Prop} {o : Oper} {a : Act} {w w' : World} (d : Nat) (f : FuncId) (args : Array Value) (hd : o.dst = some d) (hw : Region.wanted o (yielded ops a.tmps) = true) (hr : (execOp a.eval o).run P w = .ok (.enter f args) w')
    (h : Calls P f args w' fun e w'' => ∃ v, e = .returned v ∧ C w'' ∧ Below w.heap.size w w'' ∧ F d v w'') :
    if Region.wanted o (yielded ops a.tmps) = true then o.wp P a w (fun a'' w'' => ∃ v, a'' = a.put o.dst v ∧ C w'' ∧ Below w.heap.size w w'' ∧ ∀ d, o.dst = some d → F d v w'') Q else ∀ d, o.dst = some d → F d undef w := by
  rw [if_pos hw]
  unfold Oper.wp
  rw [hr, Oper.upon_enter]
  refine h.mono ?_
  rintro e w'' ⟨v, rfl, h1, h2, h3⟩
  exact ⟨v, rfl, h1, h2, fun d' h' => by rw [hd] at h'; cases h'; exact h3⟩
end Tl
end Go.Proofs.YtmpgfpmkmgebdaaGreatDoor.F
namespace Go.Proofs.YtmpgfpmkmgebdaaGreatDoor.F
open Go.RowKit
variable {ev : Operand → Value} {o : Oper} {w : World} {x y : Operand}
theorem rn_move {v : Value} (ho : o.op = .move x) (hx : ev x = v) : (execOp ev o).run Tryz.prog w = .ok (.value v) w := by
  subst hx; simp [execOp, ho, go_sem]
theorem rn_assign {v : Value} (ho : o.op = .assign x) (hx : ev x = v) : (execOp ev o).run Tryz.prog w = .ok (.value v) w := by
  subst hx; simp [execOp, ho, go_sem]
theorem rn_load9 {g k : Nat} {v : Value} (ho : o.op = .load 9 x) (hx : ev x = .pointer (some ⟨g, k, none⟩)) (hc : w.cell? ⟨g, k, none⟩ = some v) : (execOp ev o).run Tryz.prog w = .ok (.value v) w := by
  simp [execOp, ho, hx, go_sem, hc]
theorem rn_load3 {g k : Nat} {v : Value} (ho : o.op = .load 3 x) (hx : ev x = .pointer (some ⟨g, k, none⟩)) (hc : w.cell? ⟨g, k, none⟩ = some v) : (execOp ev o).run Tryz.prog w = .ok (.value v) w := by
  simp [execOp, ho, hx, go_sem, hc]
theorem rn_call1 {f : FuncId} {t : TypeId} {u : Value} (ho : o.op = .call { callee := .value (.func f), args := #[x], argTypes := #[t] }) (hf : ev (.func f) = .func (.func f) #[] #[]) (hx : ev x = u) (hb : (callFunc f #[u]).run Tryz.prog w = .ok (.enter f #[u]) w) : (execOp ev o).run Tryz.prog w = .ok (.enter f #[u]) w := by
  simp [execOp, ho, hx, hf, go_sem, hb]
theorem rn_call2 {f : FuncId} {t t' : TypeId} {u v : Value} (ho : o.op = .call { callee := .value (.func f), args := #[x, y], argTypes := #[t, t'] }) (hf : ev (.func f) = .func (.func f) #[] #[]) (hx : ev x = u) (hy : ev y = v) (hb : (callFunc f #[u, v]).run Tryz.prog w = .ok (.enter f #[u, v]) w) : (execOp ev o).run Tryz.prog w = .ok (.enter f #[u, v]) w := by
  simp [execOp, ho, hx, hy, hf, go_sem, hb]
theorem rn_index9 {A : ByteArray} {k v : Nat} (ho : o.op = .index 9 x y) (hx : ev x = .string A) (hy : ev y = .int .i64 (k : Int)) (h : k < A.size) (hv : (bs A).getD k 0 = v) : (execOp ev o).run Tryz.prog w = .ok (.value (.int .u8 (v : Int))) w := by
  have h1 : (k : Int) < (A.size : Int) := by omega
  have e := bs_getD A k h
  rw [← hv, e]
  simp [execOp, ho, hx, hy, go_sem, h1]
theorem rn_c53 {z : Int} (ho : o.op = .convert 5 3 x) (hx : ev x = .int .u8 z) (h0 : 0 ≤ z) (h1 : z < 256) : (execOp ev o).run Tryz.prog w = .ok (.value (.int .i64 z)) w := by
  have e : IntKind.i64.wrap z = z := wrap_i64_of (by omega) (by omega)
  simp [execOp, ho, hx, go_sem, e]
theorem rn_len9 {A : ByteArray} (ho : o.op = .call { callee := .builtin .len, args := #[x], argTypes := #[9] }) (hx : ev x = .string A) : (execOp ev o).run Tryz.prog w = .ok (.value (.int .i64 (A.size : Int))) w := by
  simp [execOp, ho, hx, go_sem]
theorem rn_subI {u v z : Int} (ho : o.op = .binOp .sub 3 x y 3) (hx : ev x = .int .i64 u) (hy : ev y = .int .i64 v) (hz : IntKind.i64.wrap (u - v) = z) : (execOp ev o).run Tryz.prog w = .ok (.value (.int .i64 z)) w := by
  subst hz
  simp [execOp, ho, hx, hy, go_sem]
theorem rn_sl9 {A : ByteArray} {z : Operand} {lo hi : Nat} (ho : o.op = .slice 9 x (some y) (some z) none) (hx : ev x = .string A) (hy : ev y = .int .i64 (lo : Int)) (hz : ev z = .int .i64 (hi : Int)) (h1 : lo ≤ hi) (h2 : hi ≤ A.size) : (execOp ev o).run Tryz.prog w = .ok (.value (.string (A.extract lo hi))) w := by
  have q1 : (lo : Int) ≤ (hi : Int) := by omega
  have q2 : (hi : Int) ≤ (A.size : Int) := by omega
  simp [execOp, ho, hx, hy, hz, go_sem, q1, q2]
end Go.Proofs.YtmpgfpmkmgebdaaGreatDoor.F
