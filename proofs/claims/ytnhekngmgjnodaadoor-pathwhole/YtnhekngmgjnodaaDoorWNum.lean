/- What PathWhole asks of a tree, over files as they lie. -/
import Derived.Test.YtnhekngmgjnodaaDoorTells
namespace Go.Proofs.YtnhekngmgjnodaaDoor
open Go.RowKit
open Pa
set_option linter.unusedVariables false
theorem join_snoc : ∀ {A : List (List Nat)} (x : List Nat), A ≠ [] → join (A ++ [x]) = join A ++ 47 :: x
  | [], x, h => absurd rfl h
  | [a], x, _ => rfl
  | a :: b :: r, x, _ => by
    have ih := join_snoc (A := b :: r) x (by simp)
    show join (a :: ((b :: r) ++ [x])) = join (a :: (b :: r)) ++ 47 :: x
    rw [join_cons (s := a) (t := (b :: r) ++ [x]) (by simp), ih, join_cons (s := a) (t := b :: r) (by simp)]
    simp
/-- the first k steps, put together -/
def jK (T : List ByteArray) (k : Nat) : ByteArray := ofBs (join ((T.take k).map bs))
def slash : ByteArray := ⟨#[47]⟩
theorem jK_zero (T : List ByteArray) : jK T 0 = ⟨#[]⟩ := rfl
theorem jK_first {T : List ByteArray} (h : 0 < T.length) : jK T 1 = jK T 0 ++ T.getD 0 ⟨#[]⟩ := by
  unfold jK
  rw [take_next T ⟨#[]⟩ 0 h]
  show ofBs (join [bs _]) = _
  have : join [bs (T.getD 0 ⟨#[]⟩)] = bs (T.getD 0 ⟨#[]⟩) := rfl
  rw [this, ofBs_bs, ← ofBs_bs (T.getD 0 ⟨#[]⟩), ← ofBs_append]
  rfl
theorem jK_next {T : List ByteArray} {k : Nat} (h : k < T.length) (h0 : ¬ k = 0) : jK T (k + 1) = jK T k ++ slash ++ T.getD k ⟨#[]⟩ := by
  unfold jK
  rw [take_next T ⟨#[]⟩ k h, List.map_append, List.map_singleton, join_snoc _ (by
    intro e
    have := congrArg List.length e
    rw [List.length_map, List.length_take, List.length_nil] at this
    omega)]
  rw [ofBs_append, show (47 :: bs (T.getD k ⟨#[]⟩)) = [47] ++ bs (T.getD k ⟨#[]⟩) from rfl, ofBs_append, ofBs_bs]
  have : ofBs [47] = slash := rfl
  rw [this]
  apply ByteArray.ext
  simp [ByteArray.data_append, Array.append_assoc]
theorem stepsB_bs (s : ByteArray) : (stepsB s).map bs = steps (bs s) := by
  unfold stepsB steps
  by_cases h : bs s = []
  · rw [if_pos h]; rfl
  · rw [if_neg h, List.map_map]
    conv => rhs; rw [← List.map_id (spl (bs s))]
    apply List.map_congr_left
    intro x hx
    exact bs_ofBs x (spl_bytes _ (bs_lt s) x hx)
theorem jK_all (s : ByteArray) : jK (stepsB s) (stepsB s).length = s := by
  unfold jK
  rw [List.take_length, stepsB_bs, join_steps, ofBs_bs]
theorem may_size {s : ByteArray} (h : mayB s = true) : ¬ s.size = 0 := fun h0 => may_ne (p := bs s) h ((bs_nil s).2 h0)
theorem above_len {s : ByteArray} (h : mayB s = true) : abB s = decide (1 < (stepsB s).length) := by
  have h0 := may_size h
  rw [stepsB_yes h0]
  unfold abB splB
  rw [List.length_map]
  cases ha : above (bs s) with
  | none =>
    rw [spl_single (above_none.1 ha)]; rfl
  | some u =>
    obtain ⟨r, h1, h2⟩ := above_some.1 ha
    rw [h1, spl_two u r h2, List.length_append]
    have : 0 < (spl u).length := List.length_pos_iff.2 (spl_ne u)
    symm
    exact decide_eq_true (by simp; omega)
theorem above_back {s : ByteArray} (h : mayB s = true) (hb : abB s = true) : (abU s ++ slash) ++ (stepsB s).getD ((stepsB s).length - 1) ⟨#[]⟩ = s := by
  have h0 := may_size h
  rw [stepsB_yes h0]
  unfold abB at hb
  cases ha : above (bs s) with
  | none => rw [ha] at hb; cases hb
  | some u =>
    obtain ⟨r, h1, h2⟩ := above_some.1 ha
    rw [(abU_some ha).1]
    have e : splB s = (spl u).map ofBs ++ [ofBs r] := by unfold splB; rw [h1, spl_two u r h2]; simp
    have e2 : (splB s).getD ((splB s).length - 1) ⟨#[]⟩ = ofBs r := by
      rw [e, List.length_append, List.getD_eq_getElem?_getD, List.getElem?_append_right (by simp)]
      simp
    rw [e2]
    have : slash = ofBs [47] := rfl
    rw [this, ← ofBs_append, ← ofBs_append, List.append_assoc]
    have : u ++ ([47] ++ r) = bs s := by rw [h1]; rfl
    rw [this, ofBs_bs]
/-! a tree, piece by piece -/
theorem tree_at {l : List Fl} (h : treeP l = true) {k : Nat} (hk : k < l.length) : okR l k = true := by
  rw [tree_same] at h
  unfold treeR at h
  rw [Bool.and_eq_true] at h
  exact List.all_eq_true.1 h.2 k (List.mem_range.2 hk)
theorem tree_may {l : List Fl} (h : treeP l = true) {k : Nat} (hk : k < l.length) : mayB (l.getD k default).path = true := by
  have := tree_at h hk
  unfold okR at this
  rw [Bool.and_eq_true] at this
  exact this.1
theorem tree_init {l : List Fl} (h : treeP l = true) (m : Nat) : treeP (l.take m) = true := by
  unfold treeP at h ⊢
  rw [Bool.and_eq_true, decide_eq_true_iff, List.all_eq_true] at h ⊢
  refine ⟨by rw [List.length_take]; omega, fun k hk => ?_⟩
  have hk' := List.mem_range.1 hk
  rw [List.length_take] at hk'
  have h1 := h.2 k (List.mem_range.2 (by omega))
  have e : ∀ j, j < m → (l.take m).getD j default = l.getD j default := fun j hj => by
    rw [List.getD_eq_getElem?_getD, List.getD_eq_getElem?_getD, List.getElem?_take_of_lt hj]
  unfold okP at h1 ⊢
  rw [e k (by omega), e (k - 1) (by omega), List.take_take, Nat.min_eq_left (by omega)]
  exact h1
theorem tree_is {l : List Fl} (h : treeP l = true) : Tree (l.map fi) := by
  have hall : ∀ k, k < l.length → okR l k = true := fun k hk => tree_at h hk
  have hr : ∀ i j, i < j → j < l.length → lt (l.getD i default).path (l.getD j default).path = true := by
    have h2 := h
    rw [tree_same] at h2
    unfold treeR at h2
    rw [Bool.and_eq_true] at h2
    exact tree_rise okR_rise h2.2
  have hg : ∀ k (hk : k < l.length), l[k] = l.getD k default := fun k hk => by rw [List.getD_eq_getElem?_getD, List.getElem?_eq_getElem hk]; rfl
  have parts : ∀ x ∈ l, mayB x.path = true ∧ holdB x = true ∧ (abB x.path = true → dirB l (abU x.path) = true) := fun x hx => by
    obtain ⟨j, hj, rfl⟩ := mem_at hx
    have := hall j hj
    unfold okR at this
    rw [Bool.and_eq_true, Bool.and_eq_true, Bool.and_eq_true] at this
    refine ⟨this.1, this.2.2.1, fun hb => ?_⟩
    have h3 := this.2.2.2
    rw [hb] at h3
    exact h3
  refine ⟨?_, ?_, ?_, ?_, ?_, ?_⟩
  · rw [List.length_map]
    unfold treeP at h
    rw [Bool.and_eq_true, decide_eq_true_iff] at h
    exact h.1
  · intro f hf
    obtain ⟨x, hx, rfl⟩ := List.mem_map.1 hf
    exact (parts x hx).1
  · unfold Rise
    rw [List.pairwise_iff_getElem]
    intro i j hi hj hij
    rw [List.length_map] at hi hj
    rw [List.getElem_map, List.getElem_map]
    have := hr i j hij hj
    rw [← hg i hi, ← hg j hj, lt_bs] at this
    exact of_decide_eq_true this
  · intro f hf
    obtain ⟨x, hx, rfl⟩ := List.mem_map.1 hf
    have := (parts x hx).2.1
    unfold holdB at this
    show (bs x.data).length ≤ 16384
    rw [bs_length]
    split at this
    · have := of_decide_eq_true this; omega
    · exact of_decide_eq_true this
  · intro f hf hd
    obtain ⟨x, hx, rfl⟩ := List.mem_map.1 hf
    have := (parts x hx).2.1
    unfold holdB at this
    have hd' : x.dir = true := hd
    rw [if_pos hd'] at this
    exact (bs_nil x.data).2 (of_decide_eq_true this)
  · intro f hf u hu
    obtain ⟨x, hx, rfl⟩ := List.mem_map.1 hf
    have hu' : above (bs x.path) = some u := hu
    obtain ⟨h1, h2⟩ := abU_some hu'
    have := (parts x hx).2.2 h2
    unfold dirB at this
    rw [List.any_eq_true] at this
    obtain ⟨y, hy, h3⟩ := this
    have h4 : y.path = abU x.path ∧ y.dir = true := by simpa using h3
    refine ⟨fi y, List.mem_map_of_mem hy, ?_, h4.2⟩
    show bs y.path = u
    rw [h4.1, h1, bs_ofBs u (above_lt256 hu')]
/-- the root, and the directories among the first i -/
def dsK (l : List Fl) (i : Nat) : List ByteArray := ⟨#[]⟩ :: ((l.take i).filter (·.dir)).map (·.path)
theorem dsK_yes {l : List Fl} {i : Nat} (hi : i < l.length) (h : (l.getD i default).dir = true) : dsK l (i + 1) = dsK l i ++ [(l.getD i default).path] := by
  unfold dsK
  rw [take_next l default i hi, List.filter_append, List.map_append, List.cons_append]
  congr 2
  show ([l.getD i default].filter (·.dir)).map (·.path) = _
  rw [List.filter_cons, if_pos h]; rfl
theorem dsK_no {l : List Fl} {i : Nat} (hi : i < l.length) (h : (l.getD i default).dir = false) : dsK l (i + 1) = dsK l i := by
  unfold dsK
  rw [take_next l default i hi, List.filter_append, List.map_append]
  have : ([l.getD i default].filter (·.dir)).map (·.path) = [] := by rw [List.filter_cons, if_neg (by rw [h]; decide)]; rfl
  rw [this, List.append_nil]
theorem dsK_len (l : List Fl) (i : Nat) : (dsK l i).length ≤ l.length + 1 := by
  unfold dsK
  rw [List.length_cons, List.length_map]
  have h1 := List.length_filter_le (fun x : Fl => x.dir) (l.take i)
  rw [List.length_take] at h1
  omega
theorem dsK_bs (l : List Fl) : (dsK l l.length).map bs = allDirs (l.map fi) := by
  unfold dsK allDirs
  rw [List.take_length, List.map_cons]
  congr 1
  rw [List.filter_map, List.map_map, List.map_map]
  rfl
theorem kidsF_mem {l : List Fl} {d : ByteArray} {i : Nat} (h : i ∈ kidsF l d) : i < l.length := by
  unfold kidsF kidsK at h
  exact List.mem_range.1 (List.mem_filter.1 h).1
theorem kidsF_rise (l : List Fl) (d : ByteArray) : (kidsF l d).Pairwise (· < ·) := by
  unfold kidsF kidsK
  exact List.Pairwise.filter _ List.pairwise_lt_range
theorem kidsF_next (l : List Fl) (d : ByteArray) {i : Nat} (hi : i < (kidsF l d).length) (h0 : ¬ i = 0) : (kidsF l d).getD (i - 1) 0 < (kidsF l d).getD i 0 := by
  have h1 := List.pairwise_iff_getElem.1 (kidsF_rise l d) (i - 1) i (by omega) hi (by omega)
  rw [List.getD_eq_getElem?_getD, List.getD_eq_getElem?_getD, List.getElem?_eq_getElem (by omega), List.getElem?_eq_getElem hi]
  exact h1
theorem kidsF_lt (l : List Fl) (d : ByteArray) {i : Nat} (hi : i < (kidsF l d).length) : (kidsF l d).getD i 0 < l.length := by
  refine kidsF_mem (d := d) ?_
  rw [List.getD_eq_getElem?_getD, List.getElem?_eq_getElem hi]
  exact List.getElem_mem hi
theorem count_nodup {a : Nat} : ∀ {L : List Nat}, L.Pairwise (· < ·) → L.count a = if a ∈ L then 1 else 0
  | [], _ => by simp
  | x :: r, h => by
    obtain ⟨h1, h2⟩ := List.pairwise_cons.1 h
    rw [List.count_cons, count_nodup h2]
    by_cases e : x = a
    · subst e
      have : ¬ x ∈ r := fun hm => Nat.lt_irrefl _ (h1 x hm)
      simp [this]
    · have : ¬ a = x := fun q => e q.symm
      simp [e, this]
theorem count_flat (l : List Fl) (i : Nat) : ∀ (DS : List ByteArray), (DS.flatMap (kidsF l)).count i = DS.countP (fun d => decide (i ∈ kidsF l d))
  | [] => rfl
  | d :: r => by
    rw [List.flatMap_cons, List.count_append, count_flat l i r, List.countP_cons, count_nodup (kidsF_rise l d), Nat.add_comm]
    congr 1
    by_cases h : i ∈ kidsF l d <;> simp [h]
/-- each stands among those of just one directory, or of the root -/
theorem all_once {l : List Fl} (h : treeP l = true) {i : Nat} (hi : i < l.length) : ((dsK l l.length).flatMap (kidsF l)).count i = 1 := by
  rw [count_flat]
  have h1 := kids_one (tree_is h) (i := i) (by rw [List.length_map]; exact hi)
  rw [← dsK_bs, List.countP_map] at h1
  rw [← h1]
  congr 1
  funext d
  show decide (i ∈ kidsF l d) = decide (i ∈ kids (l.map fi) (bs d))
  rw [kidsF_is]
/-- how often each place was met -/
def cntV (F : List Nat) (n : Nat) : List Value := (List.range n).map fun i => nI (F.count i)
theorem cntV_zero (n : Nat) : cntV [] n = List.replicate n (.int .i64 0) := by
  unfold cntV
  apply List.ext_getElem?
  intro j
  rw [List.getElem?_map]
  by_cases hj : j < n
  · rw [List.getElem?_range hj, List.getElem?_replicate, if_pos hj]; rfl
  · rw [List.getElem?_eq_none (by simp; omega), List.getElem?_eq_none (by simp; omega)]; rfl
theorem cntV_get (F : List Nat) {n i : Nat} (h : i < n) : (cntV F n)[i]? = some (.int .i64 ((F.count i : Nat) : Int)) := by
  unfold cntV
  rw [List.getElem?_map, List.getElem?_range h]; rfl
theorem cntV_set (F : List Nat) {n q : Nat} (h : q < n) : (cntV F n).set q (.int .i64 ((F.count q + 1 : Nat) : Int)) = cntV (F ++ [q]) n := by
  apply List.ext_getElem?
  intro j
  rw [List.getElem?_set]
  by_cases hj : j < n
  · rw [cntV_get _ hj, cntV_get _ hj, List.count_append]
    by_cases e : q = j
    · subst e
      rw [if_pos rfl, if_pos (by unfold cntV; simp; exact h)]
      simp
    · rw [if_neg e]
      simp [e]
  · have h1 : (cntV F n)[j]? = none := List.getElem?_eq_none (by unfold cntV; simp; omega)
    have h2 : (cntV (F ++ [q]) n)[j]? = none := List.getElem?_eq_none (by unfold cntV; simp; omega)
    rw [h1, h2]
    by_cases e : q = j
    · omega
    · rw [if_neg e]
end Go.Proofs.YtnhekngmgjnodaaDoor
