/- Packs, over lists of bytes as numbers: what may be one, its blob, where the chunks stand; a blob is that of one row of chunks alone. No program in it. -/
namespace Go.Proofs.YtjhjolnflkekoaaDoor
namespace Pk
/-- a number's two bytes -/
def n2 (n : Nat) : List Nat := [n / 256 % 256, n % 256]
theorem n2_len (n : Nat) : (n2 n).length = 2 := rfl
theorem n2_lt (n : Nat) : ∀ x ∈ n2 n, x < 256 := by
  intro x hx
  simp [n2] at hx
  omega
theorem n2_inj {a b : Nat} (ha : a < 65536) (hb : b < 65536) (h : n2 a = n2 b) : a = b := by
  simp [n2] at h
  omega
def pak1 : List Nat := [112, 97, 107, 49]
def total (c : List (List Nat)) : Nat := (c.map List.length).sum
theorem total_cons (x : List Nat) (c : List (List Nat)) : total (x :: c) = x.length + total c := by simp [total]
theorem total_app (c d : List (List Nat)) : total (c ++ d) = total c + total d := by simp [total]
theorem total_len (c : List (List Nat)) : c.flatten.length = total c := by simp [total, List.length_flatten]
/-- each is a chunk -/
def Chunks (c : List (List Nat)) : Prop := ∀ x ∈ c, 1 ≤ x.length ∧ x.length ≤ 16384
/-- chunks that may be a pack -/
structure May (c : List (List Nat)) : Prop where
  one : 1 ≤ c.length
  most : c.length ≤ 4096
  each : Chunks c
  apart : c.Nodup
  room : c.length = 1 ∨ total c ≤ 4096
theorem chunks_total : ∀ {c : List (List Nat)}, Chunks c → c.length ≤ total c
  | [], _ => Nat.le_refl _
  | x :: r, h => by
    have h1 := (h x (by simp)).1
    have h2 := chunks_total (c := r) (fun y hy => h y (by simp [hy]))
    rw [total_cons, List.length_cons]; omega
/-- what stands ahead of the chunks -/
def head (c : List (List Nat)) : List Nat := pak1 ++ n2 c.length ++ c.flatMap fun x => n2 x.length
theorem sizes_len : ∀ c : List (List Nat), (c.flatMap fun x => n2 x.length).length = 2 * c.length
  | [] => rfl
  | x :: r => by
    rw [List.flatMap_cons, List.length_append, sizes_len r, List.length_cons, n2_len]; omega
theorem head_len (c : List (List Nat)) : (head c).length = 6 + 2 * c.length := by
  unfold head
  rw [List.length_append, List.length_append, sizes_len]; rfl
def blob (c : List (List Nat)) : List Nat := head c ++ c.flatten
theorem blob_len (c : List (List Nat)) : (blob c).length = 6 + 2 * c.length + total c := by
  unfold blob
  rw [List.length_append, head_len, total_len]
/-- from which byte on each one stands, the first one from b on -/
def places : Nat → List (List Nat) → List Nat
  | _, [] => []
  | b, x :: r => b :: places (b + x.length) r
def at' (c : List (List Nat)) : List Nat := places (6 + 2 * c.length) c
theorem places_len : ∀ (c : List (List Nat)) (b : Nat), (places b c).length = c.length
  | [], _ => rfl
  | x :: r, b => by show (places _ r).length + 1 = _; rw [places_len r]; rfl
theorem places_snoc (x : List Nat) : ∀ (c : List (List Nat)) (b : Nat), places b (c ++ [x]) = places b c ++ [b + total c]
  | [], b => by simp [places, total]
  | y :: r, b => by
    show b :: places (b + y.length) (r ++ [x]) = b :: (places (b + y.length) r ++ [b + total (y :: r)])
    rw [places_snoc x r, total_cons, Nat.add_assoc]
set_option linter.unusedVariables false in
theorem places_get (c : List (List Nat)) : ∀ (b i : Nat) (h : i < c.length), (places b c)[i]? = some (b + total (c.take i)) := by
  induction c with
  | nil => intro b i h; simp at h
  | cons y r ih =>
    intro b i h
    cases i with
    | zero => simp [places, total]
    | succ i =>
      show (places (b + y.length) r)[i]? = _
      rw [ih _ i (by simpa using h), List.take_succ_cons, total_cons, Nat.add_assoc]
set_option linter.unusedVariables false in
/-- where a chunk stands in the blob -/
theorem blob_get (c : List (List Nat)) (i : Nat) (h : i < c.length) : (blob c).drop (6 + 2 * c.length + total (c.take i)) = (c.drop i).flatten := by
  unfold blob
  rw [← head_len c, List.drop_append, List.drop_eq_nil_of_le (by omega), List.nil_append, Nat.add_sub_cancel_left]
  have e : c.flatten = (c.take i).flatten ++ (c.drop i).flatten := by rw [← List.flatten_append, List.take_append_drop]
  rw [e, ← total_len, List.drop_left]
/-- the chunks cut out of what follows, by their sizes -/
def cutBy : List Nat → List Nat → List (List Nat)
  | [], _ => []
  | n :: r, l => l.take n :: cutBy r (l.drop n)
theorem cutBy_flatten : ∀ c : List (List Nat), cutBy (c.map List.length) c.flatten = c
  | [] => rfl
  | x :: r => by
    show ((x ++ r.flatten).take x.length) :: cutBy (r.map List.length) ((x ++ r.flatten).drop x.length) = _
    rw [List.take_left, List.drop_left, cutBy_flatten r]
theorem flat_inj : ∀ {c d : List (List Nat)}, c.map List.length = d.map List.length → c.flatten = d.flatten → c = d := fun {c d} h1 h2 => by
  rw [← cutBy_flatten c, h1, h2, cutBy_flatten d]
theorem sizes_inj : ∀ {c d : List (List Nat)}, Chunks c → Chunks d → c.length = d.length → (c.flatMap fun x => n2 x.length) = (d.flatMap fun x => n2 x.length) → c.map List.length = d.map List.length
  | [], [], _, _, _, _ => rfl
  | [], y :: s, _, _, h, _ => by simp at h
  | x :: r, [], _, _, h, _ => by simp at h
  | x :: r, y :: s, hc, hd, hl, h => by
    rw [List.flatMap_cons, List.flatMap_cons] at h
    obtain ⟨h1, h2⟩ := List.append_inj h rfl
    have e1 := n2_inj (by have := (hc x (by simp)).2; omega) (by have := (hd y (by simp)).2; omega) h1
    have e2 := sizes_inj (c := r) (d := s) (fun z hz => hc z (by simp [hz])) (fun z hz => hd z (by simp [hz])) (by simpa using hl) h2
    rw [List.map_cons, List.map_cons, e1, e2]
/-- a blob is that of one row of chunks alone -/
theorem blob_inj {c d : List (List Nat)} (hc : May c) (hd : May d) (h : blob c = blob d) : c = d := by
  unfold blob head at h
  have h0 : n2 c.length = n2 d.length := by
    have := congrArg (fun l => (l.drop 4).take 2) h
    simpa [pak1, n2] using this
  have hl := n2_inj (by have := hc.most; omega) (by have := hd.most; omega) h0
  have h1 : (pak1 ++ n2 c.length ++ c.flatMap fun x => n2 x.length).length = (pak1 ++ n2 d.length ++ d.flatMap fun x => n2 x.length).length := by
    have a := head_len c
    have b := head_len d
    unfold head at a b
    rw [a, b, hl]
  obtain ⟨h2, h3⟩ := List.append_inj h h1
  rw [hl] at h2
  have h4 := (List.append_inj h2 rfl).2
  exact flat_inj (sizes_inj hc.each hd.each hl h4) h3
/-- one is left out -/
theorem May.less {c : List (List Nat)} (h : May c) (k : Nat) (hk : k < c.length) (h2 : 1 < c.length) : May (c.take k ++ c.drop (k + 1)) := by
  have hs : (c.take k ++ c.drop (k + 1)).Sublist c := by
    rw [← List.eraseIdx_eq_take_drop_succ]; exact List.eraseIdx_sublist _ _
  have hl : (c.take k ++ c.drop (k + 1)).length = c.length - 1 := by
    rw [List.length_append, List.length_take, List.length_drop]; omega
  refine ⟨by omega, by have := h.most; omega, fun x hx => h.each x (hs.subset hx), h.apart.sublist hs, .inr ?_⟩
  have ht : total c ≤ 4096 := by
    rcases h.room with e | e
    · omega
    · exact e
  have e : c = c.take k ++ (c[k] :: c.drop (k + 1)) := by rw [List.getElem_cons_drop, List.take_append_drop]
  have : total c = total (c.take k) + (c[k].length + total (c.drop (k + 1))) := by
    conv => lhs; rw [e]
    rw [total_app, total_cons]
  rw [total_app]; omega
/-- turned about -/
theorem May.back {c : List (List Nat)} (h : May c) : May c.reverse := by
  refine ⟨by rw [List.length_reverse]; exact h.one, by rw [List.length_reverse]; exact h.most, fun x hx => h.each x (by simpa using hx), List.pairwise_reverse.2 (List.Pairwise.imp (fun e => Ne.symm e) h.apart), ?_⟩
  rw [List.length_reverse]
  have : total c.reverse = total c := by unfold total; rw [List.map_reverse, List.sum_reverse]
  rw [this]
  exact h.room
/-- what two bytes of a list say -/
def two (l : List Nat) (k : Nat) : Nat := l.getD k 0 * 256 + l.getD (k + 1) 0
theorem two_n2 (a b : List Nat) (n k : Nat) (hn : n < 65536) (hk : a.length = k) : two (a ++ (n2 n ++ b)) k = n := by
  subst hk
  have e0 : (a ++ (n2 n ++ b))[a.length]? = some (n / 256 % 256) := by
    rw [List.getElem?_append_right (Nat.le_refl _), Nat.sub_self]; rfl
  have e1 : (a ++ (n2 n ++ b))[a.length + 1]? = some (n % 256) := by
    rw [List.getElem?_append_right (by omega), show a.length + 1 - a.length = 1 by omega]; rfl
  unfold two
  rw [List.getD_eq_getElem?_getD, List.getD_eq_getElem?_getD, e0, e1]
  show n / 256 % 256 * 256 + n % 256 = n
  omega
/-- how many chunks a blob says there are -/
theorem blob_num {c : List (List Nat)} (hc : c.length < 65536) : two (blob c) 4 = c.length := by
  unfold blob head
  rw [List.append_assoc, List.append_assoc]
  exact two_n2 pak1 _ _ 4 hc rfl
theorem blob_pak (c : List (List Nat)) : (blob c).take 4 = pak1 := by
  unfold blob head
  rw [List.append_assoc, List.append_assoc]
  exact List.take_left (l₁ := pak1)
theorem sizes_split (c : List (List Nat)) (i : Nat) (h : i < c.length) : (c.flatMap fun x => n2 x.length) = ((c.take i).flatMap fun x => n2 x.length) ++ (n2 c[i].length ++ ((c.drop (i + 1)).flatMap fun x => n2 x.length)) := by
  have e : c = c.take i ++ (c[i] :: c.drop (i + 1)) := by rw [List.getElem_cons_drop, List.take_append_drop]
  conv => lhs; rw [e]
  rw [List.flatMap_append, List.flatMap_cons]
/-- how long a blob says that a chunk is -/
theorem blob_size {c : List (List Nat)} (hc : Chunks c) (i : Nat) (h : i < c.length) : two (blob c) (6 + 2 * i) = c[i].length := by
  unfold blob head
  rw [sizes_split c i h, List.append_assoc, List.append_assoc, List.append_assoc, ← List.append_assoc pak1, ← List.append_assoc (pak1 ++ n2 c.length), List.append_assoc (n2 c[i].length)]
  refine two_n2 _ _ _ _ (by have := (hc _ (List.getElem_mem h)).2; omega) ?_
  rw [List.length_append, List.length_append, sizes_len, List.length_take]
  show 4 + 2 + _ = _
  omega
/-- and what it is -/
theorem blob_chunk (c : List (List Nat)) (i : Nat) (h : i < c.length) : ((blob c).drop (6 + 2 * c.length + total (c.take i))).take c[i].length = c[i] := by
  rw [blob_get c i h, List.drop_eq_getElem_cons h, List.flatten_cons, List.take_left]
theorem total_take (c : List (List Nat)) (i : Nat) (h : i < c.length) : total (c.take (i + 1)) = total (c.take i) + c[i].length := by
  rw [List.take_succ_eq_append_getElem h, total_app]
  simp [total]
theorem total_take_le (c : List (List Nat)) (i : Nat) : total (c.take i) ≤ total c := by
  have e : c = c.take i ++ c.drop i := (List.take_append_drop i c).symm
  have : total c = total (c.take i) + total (c.drop i) := by
    conv => lhs; rw [e]
    rw [total_app]
  omega
end Pk
end Go.Proofs.YtjhjolnflkekoaaDoor
