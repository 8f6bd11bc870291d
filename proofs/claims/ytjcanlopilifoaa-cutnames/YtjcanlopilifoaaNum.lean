/- Where chunks end, over lists of bytes as numbers: a hash that rolls, the ends, the chunks. No program in it. -/
namespace Go.Proofs.Ytjcanlopilifoaa
namespace Gr
def M : Nat := 18446744073709551616
def fold (x k : Nat) : Nat := x ^^^ x >>> k
def num (b : Nat) : Nat :=
  fold (fold (fold ((b + 1) * 11400714819323198485 % 18446744073709551616) 30 * 13787848793156543929 % 18446744073709551616) 27 * 10723151780598845931 % 18446744073709551616) 31
def roll (h b : Nat) : Nat := (2 * h + num b) % 18446744073709551616
theorem fold_lt {x : Nat} (k : Nat) (h : x < 18446744073709551616) : fold x k < 18446744073709551616 := by
  have h2 : x >>> k ≤ x := by rw [Nat.shiftRight_eq_div_pow]; exact Nat.div_le_self _ _
  exact Nat.xor_lt_two_pow (n := 64) h (Nat.lt_of_le_of_lt h2 h)
theorem num_lt (b : Nat) : num b < 18446744073709551616 := fold_lt _ (Nat.mod_lt _ (by decide))
theorem roll_lt (h b : Nat) : roll h b < 18446744073709551616 := Nat.mod_lt _ (by decide)
/-- does a chunk of so many bytes, over which that hash has rolled, end wherever the data end? -/
def full (size h : Nat) : Bool := size == 1024 || (decide (64 ≤ size) && h / 72057594037927936 == 0)
/-- the ends behind pos, of bytes that are to come, where the chunk under way has so many bytes and that hash -/
def run : List Nat → Nat → Nat → Nat → List Nat
  | [], _, _, _ => []
  | x :: t, size, h, pos => if (full (size + 1) (roll h x) || t.isEmpty) = true then (pos + 1) :: run t 0 0 (pos + 1) else run t (size + 1) (roll h x) (pos + 1)
def ends (l : List Nat) : List Nat := run l 0 0 0
theorem run_nil (s h p : Nat) : run [] s h p = [] := rfl
theorem run_yes {x s h p : Nat} {t : List Nat} (hc : (full (s + 1) (roll h x) || t.isEmpty) = true) : run (x :: t) s h p = (p + 1) :: run t 0 0 (p + 1) := by
  rw [run, if_pos hc]
theorem run_no {x s h p : Nat} {t : List Nat} (hc : (full (s + 1) (roll h x) || t.isEmpty) = false) : run (x :: t) s h p = run t (s + 1) (roll h x) (p + 1) := by
  rw [run, if_neg (by rw [hc]; decide)]
/-- they rise -/
def Rise : Nat → List Nat → Prop
  | _, [] => True
  | b, x :: r => b < x ∧ Rise x r
theorem Rise.mono {b c : Nat} {l : List Nat} (h : Rise b l) (hc : c ≤ b) : Rise c l := by
  cases l with
  | nil => trivial
  | cons x r => exact ⟨Nat.lt_of_le_of_lt hc h.1, h.2⟩
theorem run_rise : ∀ (l : List Nat) (s h p : Nat), Rise p (run l s h p)
  | [], _, _, _ => trivial
  | x :: t, s, h, p => by
    cases hc : full (s + 1) (roll h x) || t.isEmpty with
    | true => rw [run_yes hc]; exact ⟨Nat.lt_succ_self p, run_rise t 0 0 (p + 1)⟩
    | false => rw [run_no hc]; exact (run_rise t _ _ (p + 1)).mono (Nat.le_succ p)
theorem run_le : ∀ (l : List Nat) (s h p : Nat), ∀ e ∈ run l s h p, e ≤ p + l.length
  | [], _, _, _, e, he => by simp [run_nil] at he
  | x :: t, s, h, p, e, he => by
    rw [List.length_cons]
    cases hc : full (s + 1) (roll h x) || t.isEmpty with
    | true =>
      rw [run_yes hc] at he
      rcases List.mem_cons.1 he with rfl | he
      · omega
      · have := run_le t 0 0 (p + 1) e he; omega
    | false =>
      rw [run_no hc] at he
      have := run_le t _ _ (p + 1) e he; omega
theorem run_len : ∀ (l : List Nat) (s h p : Nat), (run l s h p).length ≤ l.length
  | [], _, _, _ => Nat.le_refl _
  | x :: t, s, h, p => by
    rw [List.length_cons]
    cases hc : full (s + 1) (roll h x) || t.isEmpty with
    | true => rw [run_yes hc, List.length_cons]; have := run_len t 0 0 (p + 1); omega
    | false => rw [run_no hc]; have := run_len t (s + 1) (roll h x) (p + 1); omega
/-- the last end, or where it begins -/
def lastE (b : Nat) : List Nat → Nat
  | [] => b
  | x :: r => lastE x r
theorem lastE_snoc (l : List Nat) : ∀ (b x : Nat), lastE b (l ++ [x]) = x := by
  induction l with
  | nil => intro b x; rfl
  | cons y r ih => intro b x; exact ih y x
theorem lastE_app (l m : List Nat) : ∀ b, lastE b (l ++ m) = lastE (lastE b l) m := by
  induction l with
  | nil => intro b; rfl
  | cons y r ih => intro b; exact ih y
theorem Rise.app {l m : List Nat} : ∀ {b : Nat}, Rise b (l ++ m) → Rise b l ∧ Rise (lastE b l) m := by
  induction l with
  | nil => intro b h; exact ⟨trivial, h⟩
  | cons y r ih => intro b h; exact ⟨⟨h.1, (ih h.2).1⟩, (ih h.2).2⟩
theorem Rise.le {l : List Nat} : ∀ {b : Nat}, Rise b l → b ≤ lastE b l := by
  induction l with
  | nil => intro b _; exact Nat.le_refl _
  | cons y r ih => intro b h; have := ih h.2; have := h.1; show b ≤ lastE y r; omega
/-- the last end is where the data end -/
theorem run_last : ∀ (l : List Nat) (s h p : Nat), (l = [] → s = 0) → lastE p (run l s h p) = p + l.length
  | [], _, _, _, _ => rfl
  | x :: t, s, h, p, _ => by
    rw [List.length_cons]
    cases hc : full (s + 1) (roll h x) || t.isEmpty with
    | true => rw [run_yes hc]; show lastE (p + 1) (run t 0 0 (p + 1)) = _; rw [run_last t 0 0 (p + 1) (fun _ => rfl)]; omega
    | false =>
      have ht : t ≠ [] := by
        intro e; subst e; simp at hc
      rw [run_no hc]
      have h1 := run_last t (s + 1) (roll h x) (p + 1) (fun e => absurd e ht)
      have h2 : ∀ l : List Nat, l ≠ [] → ∀ b c, lastE b l = lastE c l := fun l hl b c => by
        cases l with
        | nil => exact absurd rfl hl
        | cons y r => rfl
      have h3 : run t (s + 1) (roll h x) (p + 1) ≠ [] := by
        intro e
        rw [e] at h1
        have : t.length = 0 := by show t.length = 0; have : p + 1 = p + 1 + t.length := h1; omega
        exact ht (List.eq_nil_of_length_eq_zero this)
      rw [h2 _ h3 p (p + 1), h1]; omega
/-- what comes next rises above what has come, and lies within -/
theorem ends_next {l pre : List Nat} {x : Nat} (h : pre ++ [x] <+: ends l) : lastE 0 pre < x ∧ x ≤ l.length ∧ pre.length < l.length := by
  obtain ⟨r, hr⟩ := h
  have h1 := run_rise l 0 0 0
  have h2 := run_le l 0 0 0 x (by show x ∈ ends l; rw [← hr]; simp)
  have h3 := run_len l 0 0 0
  change Rise 0 (ends l) at h1
  change (ends l).length ≤ _ at h3
  rw [← hr] at h1 h3
  rw [List.append_assoc] at h1
  have h4 := h1.app.2
  have h5 : lastE 0 pre < x := h4.1
  refine ⟨h5, by omega, ?_⟩
  simp at h3; omega
/-- each chunk but the last has 64 bytes at least, none has more than 1024; s bytes stand ahead -/
def Sized (n : Nat) : Nat → List Nat → Prop
  | _, [] => True
  | b, x :: r => x - b ≤ 1024 ∧ (x < n → 64 ≤ x - b) ∧ Sized n x r
theorem run_sized (n : Nat) : ∀ (l : List Nat) (s h p : Nat), s ≤ p → s < 1024 → p + l.length = n → Sized n (p - s) (run l s h p)
  | [], _, _, _, _, _, _ => trivial
  | x :: t, s, h, p, hs, hs2, hn => by
    rw [List.length_cons] at hn
    cases hc : full (s + 1) (roll h x) || t.isEmpty with
    | true =>
      rw [run_yes hc]
      refine ⟨by omega, fun hlt => ?_, run_sized n t 0 0 (p + 1) (Nat.zero_le _) (by omega) (by omega)⟩
      have ht : t.isEmpty = false := by
        cases t with
        | nil => simp at hn; omega
        | cons y r => rfl
      rw [ht, Bool.or_false] at hc
      unfold full at hc
      simp only [Bool.or_eq_true, beq_iff_eq, Bool.and_eq_true, decide_eq_true_eq] at hc
      omega
    | false =>
      rw [run_no hc]
      have hs3 : s + 1 < 1024 := by
        rw [Bool.or_eq_false_iff] at hc
        have := hc.1
        unfold full at this
        rw [Bool.or_eq_false_iff] at this
        have := this.1
        simp at this
        omega
      have := run_sized n t (s + 1) (roll h x) (p + 1) (by omega) hs3 (by omega)
      rw [show p + 1 - (s + 1) = p - s by omega] at this
      exact this
/-- where it begins is told by all ends alike -/
theorem run_shift (d : Nat) : ∀ (l : List Nat) (s h p : Nat), run l s h (p + d) = (run l s h p).map (· + d)
  | [], _, _, _ => rfl
  | x :: t, s, h, p => by
    cases hc : full (s + 1) (roll h x) || t.isEmpty with
    | true => rw [run_yes hc, run_yes hc, List.map_cons, show p + d + 1 = p + 1 + d by omega, run_shift d t]
    | false => rw [run_no hc, run_no hc, show p + d + 1 = p + 1 + d by omega, run_shift d t]
/-- behind an end all begins anew -/
theorem run_split : ∀ (l : List Nat) (s h p i : Nat) (hi : i < (run l s h p).length), ∃ k, k ≤ l.length ∧ (run l s h p)[i] = p + k ∧ (run l s h p).drop (i + 1) = run (l.drop k) 0 0 (p + k)
  | [], _, _, _, i, hi => by simp [run_nil] at hi
  | x :: t, s, h, p, i, hi => by
    cases hc : full (s + 1) (roll h x) || t.isEmpty with
    | true =>
      have e := run_yes (s := s) (h := h) (p := p) hc
      cases i with
      | zero => exact ⟨1, by simp, by simp [e], by rw [e]; rfl⟩
      | succ i =>
        obtain ⟨k, h1, h2, h3⟩ := run_split t 0 0 (p + 1) i (by rw [e] at hi; simpa using hi)
        refine ⟨k + 1, by simp; omega, ?_, ?_⟩
        · simp only [e, List.getElem_cons_succ, h2]; omega
        · rw [e, List.drop_succ_cons, h3, List.drop_succ_cons, show p + 1 + k = p + (k + 1) by omega]
    | false =>
      have e := run_no (s := s) (h := h) (p := p) hc
      obtain ⟨k, h1, h2, h3⟩ := run_split t (s + 1) (roll h x) (p + 1) i (by rw [e] at hi; exact hi)
      refine ⟨k + 1, by simp; omega, ?_, ?_⟩
      · simp only [e, h2]; omega
      · rw [e, h3, List.drop_succ_cons, show p + 1 + k = p + (k + 1) by omega]
/-- what ends within what is alike is told by it alone -/
theorem run_alike (y : Nat) (hd : List Nat) : ∀ (s h p : Nat), ∃ (P : List Nat) (s' h' : Nat), (∀ e ∈ P, e < p + hd.length + 1) ∧ ∀ u : List Nat, run (hd ++ y :: u) s h p = P ++ run (y :: u) s' h' (p + hd.length) := by
  induction hd with
  | nil => intro s h p; exact ⟨[], s, h, by simp, fun u => rfl⟩
  | cons x t ih =>
    intro s h p
    have ht : ∀ u : List Nat, (t ++ y :: u).isEmpty = false := fun u => by cases t <;> rfl
    cases hc : full (s + 1) (roll h x) with
    | true =>
      obtain ⟨P, s', h', h1, h2⟩ := ih 0 0 (p + 1)
      refine ⟨(p + 1) :: P, s', h', ?_, fun u => ?_⟩
      · intro e he
        rw [List.length_cons]
        rcases List.mem_cons.1 he with rfl | he
        · omega
        · have := h1 e he; omega
      · rw [List.cons_append, run_yes (by rw [hc]; rfl), h2 u, List.length_cons, List.cons_append, show p + 1 + t.length = p + (t.length + 1) by omega]
    | false =>
      obtain ⟨P, s', h', h1, h2⟩ := ih (s + 1) (roll h x) (p + 1)
      refine ⟨P, s', h', ?_, fun u => ?_⟩
      · intro e he
        rw [List.length_cons]
        have := h1 e he; omega
      · rw [List.cons_append, run_no (by rw [hc, ht u]; rfl), h2 u, List.length_cons, show p + 1 + t.length = p + (t.length + 1) by omega]
theorem run_ge (l : List Nat) (s h p : Nat) : ∀ e ∈ run l s h p, p < e := by
  have : ∀ (m : List Nat) (b : Nat), Rise b m → ∀ e ∈ m, b < e := by
    intro m
    induction m with
    | nil => intro b _ e he; simp at he
    | cons x r ih =>
      intro b hb e he
      rcases List.mem_cons.1 he with rfl | he
      · exact hb.1
      · have := ih x hb.2 e he; have := hb.1; omega
  exact this _ p (run_rise l s h p)
/-- P14.3, the first half -/
theorem local_one (head u v : List Nat) (i : Nat) (hi : i < (ends (head ++ u)).length) (hl : (ends (head ++ u))[i] < head.length) : (ends (head ++ v))[i]? = some (ends (head ++ u))[i] := by
  have hcut : head = [] ∨ ∃ (hd : List Nat) (y : Nat), head = hd ++ [y] := by
    rcases List.eq_nil_or_concat head with e | ⟨hd, y, e⟩
    · exact .inl e
    · exact .inr ⟨hd, y, by rw [e, List.concat_eq_append]⟩
  rcases hcut with rfl | ⟨hd, y, rfl⟩
  · simp at hl
  · obtain ⟨P, s', h', h1, h2⟩ := run_alike y hd 0 0 0
    have eu : ends (hd ++ [y] ++ u) = P ++ run (y :: u) s' h' (0 + hd.length) := by rw [List.append_assoc]; exact h2 u
    have ev : ends (hd ++ [y] ++ v) = P ++ run (y :: v) s' h' (0 + hd.length) := by rw [List.append_assoc]; exact h2 v
    have hP : i < P.length := by
      apply Classical.byContradiction
      intro hc
      have e1 : (ends (hd ++ [y] ++ u))[i]? = (run (y :: u) s' h' (0 + hd.length))[i - P.length]? := by
        rw [eu, List.getElem?_append_right (by omega)]
      rw [List.getElem?_eq_getElem hi] at e1
      have := run_ge _ _ _ _ _ (List.mem_of_getElem? e1.symm)
      simp at hl this
      omega
    have e1 : (ends (hd ++ [y] ++ u))[i]? = P[i]? := by rw [eu, List.getElem?_append_left hP]
    rw [List.getElem?_eq_getElem hi] at e1
    rw [ev, List.getElem?_append_left hP, ← e1]
/-- P14.3, the second half -/
theorem local_two (head a b tail : List Nat) (i k x : Nat) (hi : i < (ends (head ++ a ++ tail)).length) (hk : k < (ends (head ++ b ++ tail)).length) (h1 : (ends (head ++ a ++ tail))[i] = head.length + a.length + x) (h2 : (ends (head ++ b ++ tail))[k] = head.length + b.length + x) :
    ∃ T : List Nat, (ends (head ++ a ++ tail)).drop (i + 1) = T.map (· + (head.length + a.length + x)) ∧ (ends (head ++ b ++ tail)).drop (k + 1) = T.map (· + (head.length + b.length + x)) := by
  obtain ⟨p, _, e2, e3⟩ := run_split (head ++ a ++ tail) 0 0 0 i hi
  obtain ⟨q, _, f2, f3⟩ := run_split (head ++ b ++ tail) 0 0 0 k hk
  have hp : p = head.length + a.length + x := by
    have : (ends (head ++ a ++ tail))[i] = 0 + p := e2
    omega
  have hq : q = head.length + b.length + x := by
    have : (ends (head ++ b ++ tail))[k] = 0 + q := f2
    omega
  subst hp hq
  refine ⟨run (tail.drop x) 0 0 0, ?_, ?_⟩
  · rw [← run_shift]
    show (run (head ++ a ++ tail) 0 0 0).drop (i + 1) = _
    rw [e3]
    congr 1
    rw [show head.length + a.length + x = (head ++ a).length + x by rw [List.length_append], List.drop_length_add_append]
  · rw [← run_shift]
    show (run (head ++ b ++ tail) 0 0 0).drop (k + 1) = _
    rw [f3]
    congr 1
    rw [show head.length + b.length + x = (head ++ b).length + x by rw [List.length_append], List.drop_length_add_append]
end Gr
end Go.Proofs.Ytjcanlopilifoaa
