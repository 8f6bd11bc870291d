/- A region that draws its order: operations that may come in whatever order, and behind them others, one behind the other. No program in it. -/
import Derived.WalkKit
import Derived.WalkSpells
import Derived.Orders
import Derived.Test.YtknddbmnciodaaaGreatHeap
namespace Go.Proofs.YtknddbmnciodaaaGreat
open Go.RowKit
namespace Tl
/-- how many operations are still to come -/
def toCome (n : Nat) (listed : Array Bool) : Nat := (List.range n).countP fun i => !listed.getD i true
theorem countP_lt {α : Type} (l : List α) (p q : α → Bool) (h : ∀ x ∈ l, q x = true → p x = true) (x : α) (hx : x ∈ l) (hp : p x = true) (hq : q x = false) : l.countP q < l.countP p := by
  induction l with
  | nil => cases hx
  | cons y l ih =>
    have hle : l.countP q ≤ l.countP p := List.countP_mono_left (fun z hz => h z (List.mem_cons_of_mem _ hz))
    rcases List.mem_cons.1 hx with rfl | hx'
    · rw [List.countP_cons_of_pos hp, List.countP_cons_of_neg (by simp [hq])]
      omega
    · have := ih (fun z hz => h z (List.mem_cons_of_mem _ hz)) hx'
      cases hqy : q y
      · rw [List.countP_cons_of_neg (by simp [hqy])]
        cases hpy : p y
        · rw [List.countP_cons_of_neg (by simp [hpy])]; exact this
        · rw [List.countP_cons_of_pos hpy]; omega
      · rw [List.countP_cons_of_pos hqy, List.countP_cons_of_pos (h y (List.mem_cons_self) hqy)]; omega
theorem ready_facts {ops : Array Oper} {listed : Array Bool} {i : Nat} (h : i ∈ Region.ready .any ops listed) : i < ops.size ∧ listed.getD i true = false ∧ ∀ o, ops[i]? = some o → ∀ e ∈ o.after, Region.binds .any e = true → listed.getD e.on false = true := by
  simp only [Region.ready, List.mem_filter, List.mem_range, Bool.and_eq_true, Bool.not_eq_true'] at h
  refine ⟨h.1, h.2.1, fun o ho e he hb => ?_⟩
  have h2 := h.2.2
  rw [ho] at h2
  simp only [Option.map_some, Option.getD_some] at h2
  have h3 := (Array.all_eq_true'.1 h2) e he
  simpa [hb] using h3
theorem wpAny_inv {P : Program} {ops : Array Oper} {Q : Exit → Act → World → Prop} (I : Array Bool → Act → World → Prop) (hsz : ∀ l a w, I l a w → l.size = ops.size)
    (hstep : ∀ l a w, I l a w → ∀ i, i ∈ Region.ready .any ops l → wpOp P ops Q i (fun a' w' => I (l.setIfInBounds i true) a' w') a w)
    (hdone : ∀ l a w, I l a w → Region.ready .any ops l = [] → Q .normal a w) :
    ∀ (fuel : Nat) (l : Array Bool) (a : Act) (w : World), I l a w → toCome ops.size l ≤ fuel → wpAny P .any ops Q fuel l a w := by
  intro fuel
  induction fuel with
  | zero =>
    intro l a w h hl
    have hr : Region.ready .any ops l = [] := by
      cases hr : Region.ready .any ops l with
      | nil => rfl
      | cons i rs =>
        have hi : i ∈ Region.ready .any ops l := by rw [hr]; exact List.mem_cons_self
        obtain ⟨h1, h2, _⟩ := ready_facts hi
        have : 0 < toCome ops.size l := List.countP_pos_iff.2 ⟨i, List.mem_range.2 h1, by simp [h2]⟩
        omega
    exact ⟨hr, hdone l a w h hr⟩
  | succ fuel ih =>
    intro l a w h hl
    refine ⟨hdone l a w h, fun i hi => ?_⟩
    refine wpOp_mono (fun a' w' h' => ih _ a' w' h' ?_) (hstep l a w h i hi)
    obtain ⟨h1, h2, _⟩ := ready_facts hi
    have hs := hsz l a w h
    have : toCome ops.size (l.setIfInBounds i true) < toCome ops.size l := by
      refine countP_lt _ _ _ (fun j _ hj => ?_) i (List.mem_range.2 h1) (by simp [h2]) ?_
      · by_cases hji : i = j
        · subst hji; simp [h2]
        · simpa [Array.getD_eq_getD_getElem?, Array.getElem?_setIfInBounds_ne hji] using hj
      · simp [Array.getD_eq_getD_getElem?, hs, h1]
    omega
def dstOf (ops : Array Oper) (j : Nat) : Option Nat := ops[j]?.bind (·.dst)
/-- the slots that an operation looks at, its guard's with them -/
def looks (ops : Array Oper) (o : Oper) : List Nat :=
  (o.op.operands.toList.filterMap fun | .tmp t => some t | _ => none) ++ (match o.guard with | some (g, _) => (dstOf ops g).toList | none => [])
theorem getD_put {a : Act} {s d : Nat} {v : Value} (h : d ≠ s) : (a.put (some s) v).tmps.getD d undef = a.tmps.getD d undef := by
  simp [Act.put, Array.getD_eq_getD_getElem?, Array.getElem?_setIfInBounds_ne (Ne.symm h)]
theorem getD_put_same {a : Act} {s : Nat} {v : Value} (h : s < a.tmps.size) : (a.put (some s) v).tmps.getD s undef = v := by
  simp [Act.put, Array.getD_eq_getD_getElem?, h]
/-- the frame with these slots filled -/
def fill (a : Act) (v : Nat → Value) : List Nat → Act
  | [] => a
  | d :: ds => fill (a.put (some d) (v d)) v ds
theorem fill_size (v : Nat → Value) : ∀ (ds : List Nat) (a : Act), (fill a v ds).tmps.size = a.tmps.size
  | [], _ => rfl
  | d :: ds, a => by rw [fill, fill_size v ds]; simp [Act.put]
theorem fill_defers (v : Nat → Value) : ∀ (ds : List Nat) (a : Act), (fill a v ds).defers = a.defers
  | [], _ => rfl
  | d :: ds, a => by rw [fill, fill_defers v ds]; simp [Act.put]
theorem fill_get (v : Nat → Value) (x : Nat) : ∀ (ds : List Nat) (a : Act), (∀ d ∈ ds, d < a.tmps.size) → (fill a v ds).tmps.getD x undef = if x ∈ ds then v x else a.tmps.getD x undef
  | [], _, _ => by simp [fill]
  | d :: ds, a, h => by
    have hd := h d List.mem_cons_self
    rw [fill, fill_get v x ds _ (fun d' hd' => by simpa [Act.put] using h d' (List.mem_cons_of_mem _ hd'))]
    by_cases h1 : x ∈ ds
    · rw [if_pos h1, if_pos (List.mem_cons_of_mem _ h1)]
    · rw [if_neg h1]
      by_cases h2 : x = d
      · subst h2; rw [getD_put_same hd, if_pos List.mem_cons_self]
      · rw [getD_put h2, if_neg (by simp [h1, h2])]
theorem act_ext {a b : Act} (hs : a.tmps.size = b.tmps.size) (hd : a.defers = b.defers) (h : ∀ d, a.tmps.getD d undef = b.tmps.getD d undef) : a = b := by
  have e : a.tmps = b.tmps := by
    apply Array.ext hs
    intro i h1 h2
    have := h i
    simpa [Array.getD_eq_getD_getElem?, h1, h2] using this
  cases a; cases b
  simp only at e hd
  subst e hd
  rfl
/-- does operation m wait for k? -/
def edgeB (ops : Array Oper) (m k : Nat) : Bool := match ops[m]? with
  | some o => o.after.any fun e => Region.binds .any e && e.on == k
  | none => false
/-- all those that i waits for, also by way of others -/
def ancs (ops : Array Oper) : Nat → List Nat → List Nat
  | 0, acc => acc
  | k + 1, acc => ancs ops k (if acc.any (fun m => edgeB ops m k) then k :: acc else acc)
def Closed (ops : Array Oper) (l : Array Bool) : Prop := ∀ m k, l.getD m false = true → edgeB ops m k = true → l.getD k false = true
theorem ancs_listed {ops : Array Oper} {l : Array Bool} (hcl : Closed ops l) {i : Nat} (hi : ∀ k, edgeB ops i k = true → l.getD k false = true) : ∀ (k : Nat) (acc : List Nat), (∀ m ∈ acc, m = i ∨ l.getD m false = true) → ∀ m ∈ ancs ops k acc, m = i ∨ l.getD m false = true
  | 0, _, h => h
  | k + 1, acc, h => by
    unfold ancs
    refine ancs_listed hcl hi k _ fun m hm => ?_
    split at hm
    · rename_i hx
      rcases List.mem_cons.1 hm with rfl | hm
      · obtain ⟨j, hj, he⟩ := List.any_eq_true.1 hx
        rcases h j hj with rfl | hl
        · exact .inr (hi _ he)
        · exact .inr (hcl _ _ hl he)
      · exact h m hm
    · exact h m hm
theorem edgeB_ready {ops : Array Oper} {l : Array Bool} {i : Nat} (h : i ∈ Region.ready .any ops l) : ∀ k, edgeB ops i k = true → l.getD k false = true := by
  intro k hk
  obtain ⟨r1, r2, r3⟩ := ready_facts h
  unfold edgeB at hk
  cases ho : ops[i]? with
  | none => rw [ho] at hk; cases hk
  | some o =>
    rw [ho] at hk
    obtain ⟨e, he, hh⟩ := Array.any_eq_true'.1 hk
    simp only [Bool.and_eq_true, beq_iff_eq] at hh
    rw [← hh.2]; exact r3 o ho e he hh.1
theorem Closed.push {ops : Array Oper} {l : Array Bool} (h : Closed ops l) {i : Nat} (hi : ∀ k, edgeB ops i k = true → l.getD k false = true) : Closed ops (l.setIfInBounds i true) := by
  have up : ∀ k, l.getD k false = true → (l.setIfInBounds i true).getD k false = true := fun k hk => by
    by_cases e : i = k
    · subst e
      by_cases hs : i < l.size
      · simp [Array.getD_eq_getD_getElem?, hs]
      · simp [Array.getD_eq_getD_getElem?, hs] at hk
    · simpa [Array.getD_eq_getD_getElem?, Array.getElem?_setIfInBounds_ne e] using hk
  intro m k hm he
  by_cases e : i = m
  · subst e; exact up k (hi k he)
  · refine up k (h m k ?_ he)
    simpa [Array.getD_eq_getD_getElem?, Array.getElem?_setIfInBounds_ne e] using hm
/-- the first h may be run in whatever order, one that tells nothing with them; behind them each waits for all ahead of it -/
def mixB (ops : Array Oper) (h : Nat) (ds : List Nat) (N : Nat) : Bool :=
  decide (h ≤ ops.size) && (ds == (List.range h).filterMap (dstOf ops)) && (ds.all fun d => decide (d < N)) &&
  (List.range ops.size).all fun i => match ops[i]? with
    | none => false
    | some o => (o.after.all fun e => (!Region.binds .any e) || decide (e.on < i)) &&
      (if i < h then (o.dst.isNone || ((List.range h).all fun j => i == j || dstOf ops j != o.dst)) &&
          ((looks ops o).all fun d => (!ds.contains d) || o.after.any fun e => Region.binds .any e && decide (e.on < h) && (dstOf ops e.on == some d))
       else (List.range i).all fun j => (ancs ops i [i]).contains j)
theorem wp_region_mix {P : Program} {ops : Array Oper} {Q : Exit → Act → World → Prop} {id : Nat} {a : Act} {w : World} (hm : P.follows .mixedOrders = true) (h : Nat) (ds : List Nat) (N : Nat) (hN : a.tmps.size = N) (hB : mixB ops h ds N = true)
    (C : World → Prop) (F : Nat → Value → World → Prop) (hC : C w.drew)
    (hstep : ∀ (i : Nat) (o : Oper), ops[i]? = some o → i < h → ∀ a' w', C w' → (∀ d ∈ looks ops o, (d ∈ ds → F d (a'.tmps.getD d undef) w') ∧ (d ∉ ds → a'.tmps.getD d undef = a.tmps.getD d undef)) →
      if Region.wanted o (yielded ops a'.tmps) = true then o.wp P a' w' (fun a'' w'' => ∃ v, a'' = a'.put o.dst v ∧ C w'' ∧ (∀ d v, o.dst ≠ some d → F d v w' → F d v w'') ∧ ∀ d, o.dst = some d → F d v w'') Q else ∀ d, o.dst = some d → F d undef w')
    (hlast : ∀ (v : Nat → Value) w', C w' → (∀ d ∈ ds, F d (v d) w') → wpList P ops Q (ops.toList.drop h) (fill a v ds) w') : (Code.region id ops true).wp P Q a w := by
  unfold mixB at hB
  simp only [Bool.and_eq_true, decide_eq_true_eq, beq_iff_eq, List.all_eq_true, List.mem_range] at hB
  obtain ⟨⟨⟨hle, hds⟩, hdN⟩, hall⟩ := hB
  have hds' : ∀ d, d ∈ ds ↔ ∃ j, j < h ∧ dstOf ops j = some d := fun d => by
    rw [hds]; simp [List.mem_filterMap]
  have hafter : ∀ (i : Nat) (o : Oper), ops[i]? = some o → ∀ e ∈ o.after, Region.binds .any e = true → e.on < i := fun i o ho e he hb => by
    have hi : i < ops.size := (Array.getElem?_eq_some_iff.1 ho).1
    have := hall i hi
    rw [ho] at this
    simp only [Bool.and_eq_true] at this
    simpa [hb] using (Array.all_eq_true'.1 this.1) e he
  have hhead : ∀ (i : Nat) (o : Oper), ops[i]? = some o → i < h → (∀ d, o.dst = some d → ∀ j, j < h → j ≠ i → dstOf ops j ≠ o.dst) ∧ (∀ d ∈ looks ops o, d ∈ ds → ∃ e ∈ o.after, Region.binds .any e = true ∧ e.on < h ∧ dstOf ops e.on = some d) := fun i o ho hlt => by
    have hi : i < ops.size := (Array.getElem?_eq_some_iff.1 ho).1
    have := hall i hi
    rw [ho] at this
    simp only [Bool.and_eq_true, if_pos hlt, List.all_eq_true, List.mem_range, Bool.or_eq_true, beq_iff_eq, bne_iff_ne, Bool.not_eq_true'] at this
    obtain ⟨_, h2, h3⟩ := this
    refine ⟨fun d0 hd0 j hj hne => ?_, fun d hd hdm => ?_⟩
    · rcases h2 with h2 | h2
      · rw [hd0] at h2; simp at h2
      rcases h2 j hj with h | h
      · exact absurd h.symm hne
      · exact h
    · rcases h3 d hd with h | h
      · rw [← Bool.not_eq_true] at h; exact absurd (by simpa using hdm) h
      · obtain ⟨e, he, hh⟩ := Array.any_eq_true'.1 h
        simp only [Bool.and_eq_true, beq_iff_eq, decide_eq_true_eq] at hh
        exact ⟨e, he, hh.1.1, hh.1.2, hh.2⟩
  have htail : ∀ (i : Nat) (o : Oper), ops[i]? = some o → ¬ i < h → ∀ l : Array Bool, Closed ops l → i ∈ Region.ready .any ops l → ∀ j, j < i → l.getD j false = true := fun i o ho hlt l hcl hrd j hj => by
    have hi : i < ops.size := (Array.getElem?_eq_some_iff.1 ho).1
    have := hall i hi
    rw [ho] at this
    simp only [Bool.and_eq_true, if_neg hlt, List.all_eq_true, List.mem_range] at this
    have hm : j ∈ ancs ops i [i] := by simpa using this.2 j hj
    rcases ancs_listed hcl (edgeB_ready hrd) i [i] (fun m hm => .inl (by simpa using hm)) j hm with e | hl
    · omega
    · exact hl
  have hset : ∀ (l : Array Bool) (i j : Nat), i ≠ j → (l.setIfInBounds i true).getD j false = l.getD j false := fun l i j h => by
    simp [Array.getD_eq_getD_getElem?, Array.getElem?_setIfInBounds_ne h]
  have hset1 : ∀ (l : Array Bool) (i : Nat), i < l.size → (l.setIfInBounds i true).getD i false = true := fun l i h => by
    simp [Array.getD_eq_getD_getElem?, h]
  have hft : ∀ (l : Array Bool) (i : Nat), l.getD i true = false → l.getD i false = false := fun l i h => by
    by_cases hi : i < l.size
    · simpa [Array.getD_eq_getD_getElem?, hi] using h
    · simp [Array.getD_eq_getD_getElem?, hi] at h
  have hdone : ∀ l : Array Bool, l.size = ops.size → Region.ready .any ops l = [] → ∀ i, i < ops.size → l.getD i false = true := fun l hl hr i => by
    induction i using Nat.strongRecOn with
    | _ i ih =>
      intro hi
      cases hq : l.getD i false with
      | true => rfl
      | false =>
        exfalso
        obtain ⟨o, ho⟩ : ∃ o, ops[i]? = some o := ⟨_, Array.getElem?_eq_getElem hi⟩
        have hq' : l.getD i true = false := by
          rw [Array.getD_eq_getD_getElem?, Array.getElem?_eq_getElem (by omega)] at hq ⊢; exact hq
        have hm : i ∈ Region.ready .any ops l := by
          simp only [Region.ready, List.mem_filter, List.mem_range, Bool.and_eq_true, Bool.not_eq_true']
          refine ⟨hi, hq', ?_⟩
          rw [ho]
          simp only [Option.map_some, Option.getD_some]
          refine Array.all_eq_true'.2 fun e he => ?_
          cases hb : Region.binds .any e with
          | false => simp
          | true =>
            have := hafter i o ho e he hb
            simp [ih e.on this (by omega)]
        rw [hr] at hm; cases hm
  let FrA : Array Bool → Act → World → Prop := fun l a' w' => C w' ∧ a'.tmps.size = a.tmps.size ∧ a'.defers = a.defers ∧ (∀ d, (∀ j, j < h → l.getD j false = true → dstOf ops j ≠ some d) → a'.tmps.getD d undef = a.tmps.getD d undef) ∧
    (∀ j, j < h → l.getD j false = true → ∀ d, dstOf ops j = some d → F d (a'.tmps.getD d undef) w')
  have hfull : ∀ l a' w', FrA l a' w' → (∀ j, j < h → l.getD j false = true) → wpList P ops Q (ops.toList.drop h) a' w' := fun l a' w' hA hl => by
    obtain ⟨f1, f2, f3, f4, f5⟩ := hA
    have ea : a' = fill a (fun d => a'.tmps.getD d undef) ds := by
      refine act_ext (by rw [fill_size, f2]) (by rw [fill_defers, f3]) fun d => ?_
      rw [fill_get _ _ ds a (fun d hd => by rw [hN]; simpa using hdN d hd)]
      by_cases hd : d ∈ ds
      · rw [if_pos hd]
      · rw [if_neg hd]
        exact f4 d fun j hj _ he => hd ((hds' d).2 ⟨j, hj, he⟩)
    have := hlast (fun d => a'.tmps.getD d undef) w' f1 fun d hd => by
      obtain ⟨j, hj, he⟩ := (hds' d).1 hd
      exact f5 j hj (hl j hj) d he
    rw [← ea] at this
    exact this
  let I : Array Bool → Act → World → Prop := fun l a' w' => l.size = ops.size ∧ (((∀ t, h ≤ t → l.getD t false = false) ∧ FrA l a' w') ∨ (∃ k, h < k ∧ k ≤ ops.size ∧ (∀ t, t < k → l.getD t false = true) ∧ (∀ t, k ≤ t → l.getD t false = false) ∧ wpList P ops Q (ops.toList.drop k) a' w'))
  have hseq : ∀ (k : Nat) (l : Array Bool) (a' : Act) (w' : World), l.size = ops.size → h ≤ k → k < ops.size → (∀ t, t < k → l.getD t false = true) → (∀ t, k ≤ t → l.getD t false = false) → wpList P ops Q (ops.toList.drop k) a' w' → wpOp P ops Q k (fun a'' w'' => I (l.setIfInBounds k true) a'' w'') a' w' := fun k l a' w' hl hk1 hk2 g1 g2 hw => by
    obtain ⟨o, ho⟩ : ∃ o, ops[k]? = some o := ⟨_, Array.getElem?_eq_getElem hk2⟩
    have ed : ops.toList.drop k = o :: ops.toList.drop (k + 1) := by
      rw [List.drop_eq_getElem_cons (by simpa using hk2)]
      congr 1
      have := (Array.getElem?_eq_some_iff.1 ho).2
      simpa using this
    rw [ed] at hw
    have hnext : ∀ a'' w'', wpList P ops Q (ops.toList.drop (k + 1)) a'' w'' → I (l.setIfInBounds k true) a'' w'' := fun a'' w'' hh =>
      ⟨by simpa using hl, .inr ⟨k + 1, by omega, by omega, fun t ht => by
        by_cases htk : t = k
        · subst htk; exact hset1 _ _ (by omega)
        · rw [hset _ _ _ (by omega)]; exact g1 t (by omega), fun t ht => by rw [hset _ _ _ (by omega)]; exact g2 t (by omega), hh⟩⟩
    unfold wpOp
    rw [ho]
    simp only []
    unfold wpList at hw
    split
    · rename_i hwn
      rw [if_pos hwn] at hw
      rcases hw with hw | hw
      · exact .inl (Oper.wp_mono hnext hw)
      · exact .inr hw
    · rename_i hwn
      rw [if_neg hwn] at hw
      exact hnext _ _ hw
  refine wp_region_any hm (wpAny_inv (fun l a' w' => I l a' w' ∧ Closed ops l) (fun l a' w' h => h.1.1) ?_ ?_ ops.size _ a w.drew ?_ ?_)
  · intro l a' w' hIc i hi
    obtain ⟨hI, hcl⟩ := hIc
    refine wpOp_mono (fun a'' w'' hh => ⟨hh, hcl.push (edgeB_ready hi)⟩) ?_
    obtain ⟨i1, i2⟩ := hI
    obtain ⟨r1, r2, r3⟩ := ready_facts hi
    obtain ⟨o, ho⟩ : ∃ o, ops[i]? = some o := ⟨_, Array.getElem?_eq_getElem r1⟩
    rcases i2 with ⟨n1, hA⟩ | ⟨k, k1, k2, k3, k4, k5⟩
    · by_cases hlt : i < h
      · obtain ⟨f1, f2, f3, f4, f5⟩ := hA
        obtain ⟨hdist, hlk⟩ := hhead i o ho hlt
        have hs := hstep i o ho hlt a' w' f1 fun d hd => ⟨fun hdm => by
            obtain ⟨e, he, hb, heh, hed⟩ := hlk d hd hdm
            exact f5 e.on heh (r3 o ho e he hb) d hed, fun hdm => f4 d fun j hj _ he => hdm ((hds' d).2 ⟨j, hj, he⟩)⟩
        have hput : ∀ v w'', C w'' → (∀ d v, o.dst ≠ some d → F d v w' → F d v w'') → (∀ d, o.dst = some d → F d v w'') → I (l.setIfInBounds i true) (a'.put o.dst v) w'' := fun v w'' c1 c2 c3 => by
          cases hdi : o.dst with
          | none =>
            have hdsi : dstOf ops i = none := by unfold dstOf; rw [ho]; exact hdi
            refine ⟨by simpa using i1, .inl ⟨fun t ht => by rw [hset _ _ _ (by omega)]; exact n1 t ht, c1, f2, f3, fun d hd => ?_, fun j hj hjl d hjd => ?_⟩⟩
            · refine f4 d fun j hj hjl => ?_
              by_cases hij : i = j
              · subst hij; rw [hft _ _ r2] at hjl; cases hjl
              · exact hd j hj (by rw [hset _ _ _ hij]; exact hjl)
            · by_cases hij : i = j
              · subst hij; rw [hdsi] at hjd; cases hjd
              · rw [hset _ _ _ hij] at hjl
                exact c2 _ _ (by rw [hdi]; simp) (f5 j hj hjl d hjd)
          | some di =>
            have hdsi : dstOf ops i = some di := by unfold dstOf; rw [ho]; exact hdi
            have hdiN : di < a.tmps.size := by rw [hN]; simpa using hdN di ((hds' di).2 ⟨i, hlt, hdsi⟩)
            refine ⟨by simpa using i1, .inl ⟨fun t ht => by rw [hset _ _ _ (by omega)]; exact n1 t ht, c1, by simpa [Act.put] using f2, f3, fun d hd => ?_, fun j hj hjl d hjd => ?_⟩⟩
            · have hne : d ≠ di := fun e => hd i hlt (hset1 _ _ (by omega)) (by rw [e]; exact hdsi)
              rw [getD_put hne]
              refine f4 d fun j hj hjl => ?_
              by_cases hij : i = j
              · subst hij; rw [hft _ _ r2] at hjl; cases hjl
              · exact hd j hj (by rw [hset _ _ _ hij]; exact hjl)
            · by_cases hij : i = j
              · subst hij
                rw [hdsi] at hjd; cases hjd
                rw [getD_put_same (by rw [f2]; exact hdiN)]; exact c3 _ hdi
              · have hne : d ≠ di := fun e => hdist di hdi j hj (Ne.symm hij) (by rw [hjd, e, hdi])
                rw [getD_put hne]
                rw [hset _ _ _ hij] at hjl
                exact c2 _ _ (fun e => hne (by rw [hdi] at e; exact (Option.some.inj e).symm)) (f5 j hj hjl d hjd)
        unfold wpOp
        rw [ho]
        simp only []
        by_cases hw : Region.wanted o (yielded ops a'.tmps) = true
        · rw [if_pos hw] at hs ⊢
          refine .inl (Oper.wp_mono (fun a'' w'' hh => ?_) hs)
          obtain ⟨v, rfl, c1, c2, c3⟩ := hh
          exact hput v w'' c1 c2 c3
        · rw [if_neg hw] at hs ⊢
          exact hput undef w' f1 (fun _ _ _ h => h) hs
      · have hall' : ∀ j, j < i → l.getD j false = true := htail i o ho hlt l hcl hi
        have hih : i = h := by
          by_cases hih : i = h
          · exact hih
          · have := hall' h (by omega)
            rw [n1 h (Nat.le_refl _)] at this; cases this
        subst hih
        exact hseq i l a' w' i1 (Nat.le_refl _) r1 hall' n1 (hfull l a' w' hA hall')
    · have hik : i = k := by
        have h1 : ¬ i < k := fun hlt => by have := k3 i hlt; rw [hft _ _ r2] at this; cases this
        by_cases hik : i = k
        · exact hik
        · have := htail i o ho (by omega) l hcl hi k (by omega)
          rw [k4 k (Nat.le_refl _)] at this; cases this
      subst hik
      exact hseq i l a' w' i1 (by omega) r1 k3 k4 k5
  · intro l a' w' hIc hr
    have hI := hIc.1
    obtain ⟨i1, i2⟩ := hI
    have hd := hdone l i1 hr
    rcases i2 with ⟨n1, hA⟩ | ⟨k, k1, k2, k3, k4, k5⟩
    · have hsz : h = ops.size := by
        by_cases hlt : h < ops.size
        · have := hd h hlt; rw [n1 h (Nat.le_refl _)] at this; cases this
        · omega
      have := hfull l a' w' hA fun j hj => hd j (by omega)
      rw [List.drop_of_length_le (by simp [hsz])] at this
      exact this
    · have hsz : k = ops.size := by
        by_cases hlt : k < ops.size
        · have := hd k hlt; rw [k4 k (Nat.le_refl _)] at this; cases this
        · omega
      rw [List.drop_of_length_le (by simp [hsz])] at k5
      exact k5
  · have hz : ∀ i, (Array.replicate ops.size false).getD i false = false := fun i => by
      by_cases hi : i < ops.size
      · simp [Array.getD_eq_getD_getElem?, hi]
      · simp [Array.getD_eq_getD_getElem?, hi]
    exact ⟨⟨by simp, .inl ⟨fun t _ => hz t, hC, rfl, rfl, fun _ _ => rfl, fun j _ hj => by rw [hz] at hj; cases hj⟩⟩, fun m k hm => by rw [hz] at hm; cases hm⟩
  · exact Nat.le_trans List.countP_le_length (by simp)
/-- each of them -/
def AllL (p : Oper → Prop) : List Oper → Prop
  | [] => True
  | o :: l => p o ∧ AllL p l
theorem AllL.get {p : Oper → Prop} : ∀ {l : List Oper}, AllL p l → ∀ (i : Nat) (o : Oper), l[i]? = some o → p o
  | [], _, i, o, h => by simp at h
  | x :: l, h, 0, o, ho => by simp at ho; subst ho; exact h.1
  | x :: l, h, i + 1, o, ho => AllL.get h.2 i o (by simpa using ho)
/-- what one operation must do -/
def StepM (P : Program) (Q : Exit → Act → World → Prop) (ops : Array Oper) (ds : List Nat) (a : Act) (C : World → Prop) (F : Nat → Value → World → Prop) (o : Oper) : Prop :=
  ∀ a' w', C w' → (∀ d ∈ looks ops o, (d ∈ ds → F d (a'.tmps.getD d undef) w') ∧ (d ∉ ds → a'.tmps.getD d undef = a.tmps.getD d undef)) →
      if Region.wanted o (yielded ops a'.tmps) = true then o.wp P a' w' (fun a'' w'' => ∃ v, a'' = a'.put o.dst v ∧ C w'' ∧ (∀ d v, o.dst ≠ some d → F d v w' → F d v w'') ∧ ∀ d, o.dst = some d → F d v w'') Q else ∀ d, o.dst = some d → F d undef w'
theorem wp_mix_lit {P : Program} {l : List Oper} {Q : Exit → Act → World → Prop} {id : Nat} {a : Act} {w : World} (hm : P.follows .mixedOrders = true) (h : Nat) (ds : List Nat) (N : Nat) (hN : a.tmps.size = N) (hB : mixB l.toArray h ds N = true)
    (C : World → Prop) (F : Nat → Value → World → Prop) (hC : C w.drew)
    (hstep : AllL (StepM P Q l.toArray ds a C F) (l.take h))
    (hlast : ∀ (v : Nat → Value) w', C w' → (∀ d ∈ ds, F d (v d) w') → wpList P l.toArray Q (l.drop h) (fill a v ds) w') : (Code.region id l.toArray true).wp P Q a w :=
  wp_region_mix hm h ds N hN hB C F hC (fun i o ho hi => hstep.get i o (by rw [List.getElem?_take_of_lt hi]; simpa using ho)) hlast
theorem wanted_none {o : Oper} {y : Nat → Option Bool} (h : o.guard = none) : Region.wanted o y = true := by simp [Region.wanted, h]
theorem wanted_some {ops : Array Oper} {o : Oper} {a : Act} {g s : Nat} {b c : Bool} (h : o.guard = some (g, b)) (hs : dstOf ops g = some s) (hv : a.tmps.getD s undef = .bool c) : Region.wanted o (yielded ops a.tmps) = (c == b) := by
  unfold dstOf at hs
  cases hg : ops[g]? with
  | none => rw [hg] at hs; simp at hs
  | some og =>
    rw [hg] at hs
    simp only [Option.bind_some] at hs
    rw [Array.getD_eq_getD_getElem?] at hv
    cases hq : a.tmps[s]? with
    | none => rw [hq] at hv; simp [undef] at hv
    | some v =>
      rw [hq] at hv
      simp only [Option.getD_some] at hv
      subst hv
      simp [Region.wanted, h, yielded, hg, hs, hq]
theorem wanted_is {ops : Array Oper} {o : Oper} {a : Act} {g s : Nat} {b : Bool} (h : o.guard = some (g, b)) (hs : dstOf ops g = some s) (hv : a.tmps.getD s undef = .bool b) : Region.wanted o (yielded ops a.tmps) = true := by
  rw [wanted_some h hs hv]; cases b <;> rfl
theorem wanted_not {ops : Array Oper} {o : Oper} {a : Act} {g s : Nat} {b : Bool} (h : o.guard = some (g, b)) (hs : dstOf ops g = some s) (hv : a.tmps.getD s undef = .bool (!b)) : Region.wanted o (yielded ops a.tmps) = false := by
  rw [wanted_some h hs hv]; cases b <;> rfl
/-- an operation that yields a value, and leaves the memory as it is -/
theorem sm_v {P : Program} {Q : Exit → Act → World → Prop} {ops : Array Oper} {C : World → Prop} {F : Nat → Value → World → Prop} {o : Oper} {a : Act} {w : World} (d : Nat) (v : Value) (hd : o.dst = some d) (hw : Region.wanted o (yielded ops a.tmps) = true) (hC : C w) (hF : F d v w) (hr : (execOp a.eval o).run P w = .ok (.value v) w) :
    if Region.wanted o (yielded ops a.tmps) = true then o.wp P a w (fun a'' w'' => ∃ v, a'' = a.put o.dst v ∧ C w'' ∧ (∀ d v, o.dst ≠ some d → F d v w → F d v w'') ∧ ∀ d, o.dst = some d → F d v w'') Q else ∀ d, o.dst = some d → F d undef w := by
  rw [if_pos hw]
  unfold Oper.wp
  rw [hr]
  exact ⟨v, rfl, hC, fun _ _ _ h => h, fun d' h' => by rw [hd] at h'; cases h'; exact hF⟩
/-- one that yields a value, and makes memory or writes it -/
theorem sm_w {P : Program} {Q : Exit → Act → World → Prop} {ops : Array Oper} {C : World → Prop} {F : Nat → Value → World → Prop} {o : Oper} {a : Act} {w w' : World} (v : Value) (hw : Region.wanted o (yielded ops a.tmps) = true) (hr : (execOp a.eval o).run P w = .ok (.value v) w') (hC : C w') (hk : ∀ d v, o.dst ≠ some d → F d v w → F d v w') (hF : ∀ d, o.dst = some d → F d v w') :
    if Region.wanted o (yielded ops a.tmps) = true then o.wp P a w (fun a'' w'' => ∃ v, a'' = a.put o.dst v ∧ C w'' ∧ (∀ d v, o.dst ≠ some d → F d v w → F d v w'') ∧ ∀ d, o.dst = some d → F d v w'') Q else ∀ d, o.dst = some d → F d undef w := by
  rw [if_pos hw]
  unfold Oper.wp
  rw [hr]
  exact ⟨v, rfl, hC, hk, hF⟩
/-- one that calls a function -/
theorem sm_call {P : Program} {Q : Exit → Act → World → Prop} {ops : Array Oper} {C : World → Prop} {F : Nat → Value → World → Prop} {o : Oper} {a : Act} {w w' : World} (f : FuncId) (args : Array Value) (hw : Region.wanted o (yielded ops a.tmps) = true) (hr : (execOp a.eval o).run P w = .ok (.enter f args) w')
    (h : Calls P f args w' fun e w'' => ∃ v, e = .returned v ∧ C w'' ∧ (∀ d v, o.dst ≠ some d → F d v w → F d v w'') ∧ ∀ d, o.dst = some d → F d v w'') :
    if Region.wanted o (yielded ops a.tmps) = true then o.wp P a w (fun a'' w'' => ∃ v, a'' = a.put o.dst v ∧ C w'' ∧ (∀ d v, o.dst ≠ some d → F d v w → F d v w'') ∧ ∀ d, o.dst = some d → F d v w'') Q else ∀ d, o.dst = some d → F d undef w := by
  rw [if_pos hw]
  unfold Oper.wp
  rw [hr, Oper.upon_enter]
  refine h.mono ?_
  rintro e w'' ⟨v, rfl, h1, h2, h3⟩
  exact ⟨v, rfl, h1, h2, h3⟩
/-- one whose guard does not let it be run -/
theorem sm_skip {P : Program} {Q : Exit → Act → World → Prop} {ops : Array Oper} {C : World → Prop} {F : Nat → Value → World → Prop} {o : Oper} {a : Act} {w : World} (hw : Region.wanted o (yielded ops a.tmps) = false) (hF : ∀ d, o.dst = some d → F d undef w) :
    if Region.wanted o (yielded ops a.tmps) = true then o.wp P a w (fun a'' w'' => ∃ v, a'' = a.put o.dst v ∧ C w'' ∧ (∀ d v, o.dst ≠ some d → F d v w → F d v w'') ∧ ∀ d, o.dst = some d → F d v w'') Q else ∀ d, o.dst = some d → F d undef w := by
  rw [if_neg (by rw [hw]; decide)]; exact hF
end Tl
end Go.Proofs.YtknddbmnciodaaaGreat
