/- Paths and trees, over lists of bytes as numbers: steps, what stands above, what a tree is, who stands in which directory. No program in it. -/
namespace Go.Proofs.YtnhekngmgjnodaaDoor
namespace Pa
/-- what stands between the slashes -/
def spl : List Nat → List (List Nat)
  | [] => [[]]
  | x :: r => if x = 47 then [] :: spl r else match spl r with
    | [] => [[x]]
    | s :: t => (x :: s) :: t
theorem spl_ne (p : List Nat) : spl p ≠ [] := by
  cases p with
  | nil => simp [spl]
  | cons x r =>
    unfold spl
    split
    · simp
    · cases spl r <;> simp
theorem spl_slash (r : List Nat) : spl (47 :: r) = [] :: spl r := by rw [spl, if_pos rfl]
theorem spl_byte {x : Nat} (h : x ≠ 47) {r : List Nat} {s : List Nat} {t : List (List Nat)} (e : spl r = s :: t) : spl (x :: r) = (x :: s) :: t := by rw [spl, if_neg h, e]
def steps (p : List Nat) : List (List Nat) := if p = [] then [] else spl p
/-- with a slash between -/
def join : List (List Nat) → List Nat
  | [] => []
  | [s] => s
  | s :: t => s ++ 47 :: join t
theorem join_cons {s : List Nat} {t : List (List Nat)} (h : t ≠ []) : join (s :: t) = s ++ 47 :: join t := by
  cases t with
  | nil => exact absurd rfl h
  | cons a b => rfl
theorem join_byte (x : Nat) (s : List Nat) (t : List (List Nat)) : join ((x :: s) :: t) = x :: join (s :: t) := by
  cases t with
  | nil => rfl
  | cons a b => rfl
theorem join_spl : ∀ p : List Nat, join (spl p) = p
  | [] => rfl
  | x :: r => by
    have ih := join_spl r
    by_cases h : x = 47
    · subst h
      rw [spl_slash, join_cons (spl_ne r), ih]; rfl
    · cases e : spl r with
      | nil => exact absurd e (spl_ne r)
      | cons s t => rw [spl_byte h e, join_byte, ← e, ih]
theorem join_steps (p : List Nat) : join (steps p) = p := by
  unfold steps
  by_cases h : p = []
  · rw [if_pos h, h]; rfl
  · rw [if_neg h]; exact join_spl p
/-- no step has a slash -/
theorem spl_free : ∀ (p : List Nat), ∀ s ∈ spl p, 47 ∉ s
  | [], s, h => by
    have : s = [] := by simpa [spl] using h
    subst this; simp
  | x :: r, s, h => by
    by_cases hx : x = 47
    · subst hx
      rw [spl_slash] at h
      rcases List.mem_cons.1 h with rfl | h
      · simp
      · exact spl_free r s h
    · cases e : spl r with
      | nil => exact absurd e (spl_ne r)
      | cons a t =>
        rw [spl_byte hx e] at h
        rcases List.mem_cons.1 h with rfl | h
        · have := spl_free r a (by rw [e]; simp)
          intro hm
          rcases List.mem_cons.1 hm with e2 | hm
          · exact hx e2.symm
          · exact this hm
        · exact spl_free r s (by rw [e]; simp [h])
/-- byte by byte, from the front -/
theorem spl_snoc_slash : ∀ p : List Nat, spl (p ++ [47]) = spl p ++ [[]]
  | [] => rfl
  | x :: r => by
    have ih := spl_snoc_slash r
    by_cases h : x = 47
    · subst h
      rw [List.cons_append, spl_slash, spl_slash, ih]; rfl
    · cases e : spl r with
      | nil => exact absurd e (spl_ne r)
      | cons s t =>
        rw [e, List.cons_append] at ih
        rw [List.cons_append, spl_byte h ih, spl_byte h e]; rfl
theorem spl_snoc_byte {y : Nat} (hy : y ≠ 47) : ∀ (p : List Nat) (i : List (List Nat)) (s : List Nat), spl p = i ++ [s] → spl (p ++ [y]) = i ++ [s ++ [y]]
  | [], i, s, h => by
    have : i = [] ∧ s = [] := by
      cases i with
      | nil => simpa [spl] using h.symm
      | cons a b => simp [spl] at h
    obtain ⟨rfl, rfl⟩ := this
    simp [spl, hy]
  | x :: r, i, s, h => by
    by_cases hx : x = 47
    · subst hx
      rw [spl_slash] at h
      cases i with
      | nil =>
        simp only [List.nil_append, List.cons.injEq] at h
        exact absurd h.2 (spl_ne r)
      | cons a b =>
        simp only [List.cons_append, List.cons.injEq] at h
        obtain ⟨rfl, h2⟩ := h
        rw [List.cons_append, spl_slash, spl_snoc_byte hy r b s h2]; rfl
    · cases e : spl r with
      | nil => exact absurd e (spl_ne r)
      | cons a t =>
        rw [spl_byte hx e] at h
        cases i with
        | nil =>
          simp only [List.nil_append, List.cons.injEq] at h
          obtain ⟨rfl, rfl⟩ := h
          have := spl_snoc_byte hy r [] a e
          rw [List.nil_append] at this ⊢
          rw [List.cons_append, spl_byte hx this]; rfl
        | cons b c =>
          simp only [List.cons_append, List.cons.injEq] at h
          obtain ⟨rfl, h2⟩ := h
          have := spl_snoc_byte hy r (a :: c) s (by rw [e, h2]; rfl)
          rw [List.cons_append] at this
          rw [List.cons_append, spl_byte hx this]; rfl
/-- what stands ahead of the last slash -/
def above : List Nat → Option (List Nat)
  | [] => none
  | x :: r => match above r with
    | some u => some (x :: u)
    | none => if x = 47 then some [] else none
theorem above_none : ∀ {p : List Nat}, above p = none ↔ 47 ∉ p
  | [] => by simp [above]
  | x :: r => by
    unfold above
    cases e : above r with
    | some u =>
      have : ¬ 47 ∉ r := fun h => by rw [above_none.2 h] at e; cases e
      simp at this
      simp [this]
    | none =>
      have h := above_none.1 e
      by_cases hx : x = 47
      · simp [hx]
      · simp [hx, h]; exact fun hh => hx hh.symm
theorem above_some : ∀ {p u : List Nat}, above p = some u ↔ ∃ s, p = u ++ 47 :: s ∧ 47 ∉ s
  | [], u => by simp [above]
  | x :: r, u => by
    unfold above
    cases e : above r with
    | some v =>
      obtain ⟨s, h1, h2⟩ := above_some.1 e
      constructor
      · intro h
        obtain rfl : x :: v = u := by simpa using h
        exact ⟨s, by rw [h1]; rfl, h2⟩
      · rintro ⟨t, h3, h4⟩
        cases u with
        | nil =>
          simp only [List.nil_append, List.cons.injEq] at h3
          obtain ⟨_, rfl⟩ := h3
          exact absurd (show 47 ∈ r by rw [h1]; simp) h4
        | cons a b =>
          simp only [List.cons_append, List.cons.injEq] at h3
          obtain ⟨rfl, h3⟩ := h3
          have := (above_some (p := r) (u := b)).2 ⟨t, h3, h4⟩
          rw [e] at this
          rw [Option.some.inj this]
    | none =>
      have h := above_none.1 e
      constructor
      · intro hh
        by_cases hx : x = 47
        · subst hx
          have hh2 : some ([] : List Nat) = some u := hh
          obtain rfl : [] = u := Option.some.inj hh2
          exact ⟨r, rfl, h⟩
        · simp [hx] at hh
      · rintro ⟨s, h3, h4⟩
        cases u with
        | nil =>
          simp only [List.nil_append, List.cons.injEq] at h3
          obtain ⟨rfl, rfl⟩ := h3
          rfl
        | cons a b =>
          simp only [List.cons_append, List.cons.injEq] at h3
          exact absurd (show 47 ∈ r by rw [h3.2]; simp) h
theorem spl_single : ∀ {p : List Nat}, 47 ∉ p → spl p = [p]
  | [], _ => rfl
  | x :: r, h => by
    have hx : x ≠ 47 := fun e => h (by rw [e]; simp)
    rw [spl_byte hx (spl_single (p := r) fun hh => h (by simp [hh]))]
theorem spl_two : ∀ (u s : List Nat), 47 ∉ s → spl (u ++ 47 :: s) = spl u ++ [s]
  | [], s, h => by rw [List.nil_append, spl_slash, spl_single h]; rfl
  | x :: u, s, h => by
    have ih := spl_two u s h
    by_cases hx : x = 47
    · subst hx
      rw [List.cons_append, spl_slash, spl_slash, ih]; rfl
    · cases e : spl u with
      | nil => exact absurd e (spl_ne u)
      | cons a t =>
        rw [e, List.cons_append] at ih
        rw [List.cons_append, spl_byte hx ih, spl_byte hx e]; rfl
/-- may it be a step? -/
def okS (s : List Nat) : Bool := decide (1 ≤ s.length ∧ s.length ≤ 32) && decide (s ≠ [46] ∧ s ≠ [46, 46]) && s.all fun x => decide (33 ≤ x ∧ x ≤ 126)
/-- may it be a path? -/
def may (p : List Nat) : Bool := decide (p ≠ [] ∧ p.length ≤ 96) && (spl p).all okS
theorem may_ne {p : List Nat} (h : may p = true) : p ≠ [] := by
  unfold may at h
  rw [Bool.and_eq_true, decide_eq_true_iff] at h
  exact h.1.1
theorem may_steps (p : List Nat) : may p = (decide (0 < (steps p).length ∧ p.length ≤ 96) && (steps p).all okS) := by
  unfold may steps
  by_cases h : p = []
  · subst h; rfl
  · rw [if_neg h]
    have : 0 < (spl p).length := List.length_pos_iff.2 (spl_ne p)
    simp [h, this]
/-- of a path what stands above is a path, and its last step has a byte -/
theorem may_above {p u : List Nat} (h : may p = true) (ha : above p = some u) : may u = true ∧ ∃ s, p = u ++ 47 :: s ∧ 47 ∉ s ∧ okS s = true ∧ spl p = spl u ++ [s] := by
  obtain ⟨s, rfl, hs⟩ := above_some.1 ha
  unfold may at h
  rw [Bool.and_eq_true, decide_eq_true_iff, spl_two u s hs, List.all_append, Bool.and_eq_true] at h
  obtain ⟨⟨h1, h2⟩, h3, h4⟩ := h
  have h5 : okS s = true := by simpa using h4
  refine ⟨?_, s, rfl, hs, h5, spl_two u s hs⟩
  unfold may
  rw [Bool.and_eq_true, decide_eq_true_iff]
  refine ⟨⟨?_, by rw [List.length_append] at h2; omega⟩, h3⟩
  intro e
  subst e
  simp [spl, okS] at h3
/-- a file -/
structure Fi where
  path : List Nat
  data : List Nat
  dir : Bool
/-- paths rise, byte by byte -/
def Rise (l : List Fi) : Prop := l.Pairwise fun a b => a.path < b.path
structure Tree (l : List Fi) : Prop where
  most : l.length ≤ 256
  paths : ∀ f ∈ l, may f.path = true
  rise : Rise l
  datas : ∀ f ∈ l, f.data.length ≤ 16384
  dirs : ∀ f ∈ l, f.dir = true → f.data = []
  up : ∀ f ∈ l, ∀ u, above f.path = some u → ∃ g ∈ l, g.path = u ∧ g.dir = true
theorem Rise.inj {l : List Fi} (h : Rise l) {i j : Nat} (hi : i < l.length) (hj : j < l.length) (e : l[i].path = l[j].path) : i = j := by
  have hp := List.pairwise_iff_getElem.1 h
  by_cases h1 : i < j
  · exact absurd (hp i j hi hj h1) (by rw [e]; exact List.lt_irrefl _)
  · by_cases h2 : j < i
    · exact absurd (hp j i hj hi h2) (by rw [e]; exact List.lt_irrefl _)
    · omega
/-- what stands above stands ahead -/
theorem above_lt {p u : List Nat} (h : above p = some u) : u < p := by
  obtain ⟨s, rfl, _⟩ := above_some.1 h
  induction u with
  | nil => exact List.nil_lt_cons _ _
  | cons x r ih => rw [List.cons_append]; exact List.cons_lt_cons_iff.2 (.inr ⟨rfl, ih (above_some.2 ⟨s, rfl, by assumption⟩)⟩)
/-- without the last one it is one still -/
theorem Tree.init {l : List Fi} {f : Fi} (h : Tree (l ++ [f])) : Tree l := by
  have hr := List.pairwise_append.1 h.rise
  refine ⟨by have := h.most; rw [List.length_append] at this; omega, fun x hx => h.paths x (by simp [hx]), hr.1, fun x hx => h.datas x (by simp [hx]), fun x hx => h.dirs x (by simp [hx]), fun x hx u hu => ?_⟩
  obtain ⟨g, hg, h1, h2⟩ := h.up x (by simp [hx]) u hu
  rcases List.mem_append.1 hg with hg | hg
  · exact ⟨g, hg, h1, h2⟩
  · have : g = f := by simpa using hg
    subst this
    have h3 := hr.2.2 x hx g (by simp)
    have h4 := above_lt hu
    rw [← h1] at h4
    exact absurd (List.lt_trans h3 h4) (List.lt_irrefl _)
/-- does it stand there? -/
def kidB (d : List Nat) (f : Fi) : Bool := match above f.path with
  | some u => decide (d ≠ [] ∧ u = d)
  | none => decide (d = [])
/-- the places of those that stand in a directory -/
def kids (l : List Fi) (d : List Nat) : List Nat := (List.range l.length).filter fun i => match l[i]? with
  | some f => kidB d f
  | none => false
theorem mem_kids {l : List Fi} {d : List Nat} {i : Nat} : i ∈ kids l d ↔ ∃ h : i < l.length, kidB d l[i] = true := by
  unfold kids
  rw [List.mem_filter, List.mem_range]
  constructor
  · rintro ⟨h1, h2⟩
    rw [List.getElem?_eq_getElem h1] at h2
    exact ⟨h1, h2⟩
  · rintro ⟨h1, h2⟩
    refine ⟨h1, ?_⟩
    rw [List.getElem?_eq_getElem h1]
    exact h2
theorem kids_rise (l : List Fi) (d : List Nat) : (kids l d).Pairwise (· < ·) := List.Pairwise.filter _ List.pairwise_lt_range
/-- the root, and the directories -/
def allDirs (l : List Fi) : List (List Nat) := [] :: (l.filter (·.dir)).map (·.path)
theorem count_map {α : Type} (p : List Nat) (f : α → List Nat) (l : List α) : (l.map f).count p = l.countP fun x => decide (f x = p) := by
  induction l with
  | nil => rfl
  | cons x r ih =>
    rw [List.map_cons, List.count_cons, List.countP_cons, ih]
    simp only [beq_iff_eq, decide_eq_true_eq]
theorem count_one {a : List Nat} : ∀ {l : List (List Nat)}, l.Nodup → a ∈ l → l.count a = 1
  | [], _, h => by cases h
  | x :: r, h, hm => by
    obtain ⟨h1, h2⟩ := List.nodup_cons.1 h
    rw [List.count_cons]
    by_cases e : x = a
    · subst e
      rw [List.count_eq_zero.2 h1]; simp
    · rcases List.mem_cons.1 hm with e2 | hm
      · exact absurd e2.symm e
      · rw [count_one h2 hm]; simp [e]
theorem dirs_count {l : List Fi} (h : Tree l) {g : Fi} (hg : g ∈ l) (hd : g.dir = true) : ((l.filter (·.dir)).map (·.path)).count g.path = 1 := by
  have hn : ((l.filter (·.dir)).map (·.path)).Nodup := by
    have h1 : (l.filter (·.dir)).Pairwise fun a b => a.path < b.path := List.Pairwise.filter _ h.rise
    exact List.Pairwise.map (fun f : Fi => f.path) (fun a b hab e => by rw [e] at hab; exact List.lt_irrefl _ hab) h1
  exact count_one hn (List.mem_map_of_mem (List.mem_filter.2 ⟨hg, hd⟩))
/-- each stands among those of just one directory, or of the root -/
theorem kids_one {l : List Fi} (h : Tree l) {i : Nat} (hi : i < l.length) : (allDirs l).countP (fun d => decide (i ∈ kids l d)) = 1 := by
  have hf : l[i] ∈ l := List.getElem_mem hi
  have key : ∀ d, decide (i ∈ kids l d) = kidB d l[i] := fun d => by
    rw [Bool.eq_iff_iff, decide_eq_true_iff, mem_kids]
    exact ⟨fun ⟨_, h⟩ => h, fun h => ⟨hi, h⟩⟩
  have e1 : (allDirs l).countP (fun d => decide (i ∈ kids l d)) = (allDirs l).countP (fun d => kidB d l[i]) := by
    congr 1; funext d; exact key d
  rw [e1]
  unfold allDirs
  rw [List.countP_cons]
  cases ha : above l[i].path with
  | none =>
    have h0 : kidB [] l[i] = true := by unfold kidB; rw [ha]; rfl
    have hz : ((l.filter (·.dir)).map (·.path)).countP (fun d => kidB d l[i]) = 0 := by
      rw [List.countP_eq_zero]
      intro d hd
      obtain ⟨g, hg, rfl⟩ := List.mem_map.1 hd
      have := may_ne (h.paths g (List.mem_filter.1 hg).1)
      unfold kidB; rw [ha]; simpa using this
    rw [hz, h0]; rfl
  | some u =>
    obtain ⟨g, hg, hgu, hgd⟩ := h.up _ hf u ha
    have hune : u ≠ [] := by rw [← hgu]; exact may_ne (h.paths g hg)
    have h0 : kidB [] l[i] = false := by unfold kidB; rw [ha]; simp
    have hc : ((l.filter (·.dir)).map (·.path)).countP (fun d => kidB d l[i]) = ((l.filter (·.dir)).map (·.path)).count u := by
      unfold List.count
      congr 1
      funext d
      unfold kidB; rw [ha]
      rw [Bool.eq_iff_iff, decide_eq_true_iff, beq_iff_eq]
      constructor
      · exact fun hh => hh.2.symm
      · rintro rfl; exact ⟨hune, rfl⟩
    rw [hc, ← hgu, dirs_count h hg hgd, h0]; rfl
end Pa
end Go.Proofs.YtnhekngmgjnodaaDoor
