/- Stores and rows of objects side by side; sizes are kept by what is done. -/
import Derived.Test.YtpeeelnkelnlkaaActs
namespace Go.Proofs.Ytpeeelnkelnlkaa
open Go.RowKit Go.Maps
/-- stores, and rows of objects that are no store's -/
def Env (w0 w : World) (l : List (Nat × St)) (rs : List (Value × List Ob)) : Prop := ∃ F, StsF w0 w l F ∧ ∀ r ∈ rs, w.ownsRow 0 28 2 r.1 r.2.length (objCells r.2) ∧ ∀ g, r.1.ownBlock = some g → ∀ j, j < l.length → ¬ F j g
theorem Env.start (w : World) : Env w w [] [] := by
  obtain ⟨F, h⟩ := Sts.start w
  exact ⟨F, h, fun r hr => by cases hr⟩
theorem Env.base {w0 w : World} {l : List (Nat × St)} {rs : List (Value × List Ob)} (h : Env w0 w l rs) : Below w0.heap.size w0 w := by
  obtain ⟨F, h, _⟩ := h; exact h.base
theorem Env.sts {w0 w : World} {l : List (Nat × St)} {rs : List (Value × List Ob)} (h : Env w0 w l rs) : Sts w0 w l := by
  obtain ⟨F, h, _⟩ := h; exact ⟨F, h⟩
theorem Env.rowOf {w0 w : World} {l : List (Nat × St)} {rs : List (Value × List Ob)} (h : Env w0 w l rs) {r : Value × List Ob} (hr : r ∈ rs) : w.ownsRow 0 28 2 r.1 r.2.length (objCells r.2) := by
  obtain ⟨F, _, h⟩ := h; exact (h r hr).1
theorem Env.less {w0 w : World} {l : List (Nat × St)} {rs rs' : List (Value × List Ob)} (h : Env w0 w l rs) (hs : ∀ r ∈ rs', r ∈ rs) : Env w0 w l rs' := by
  obtain ⟨F, h1, h2⟩ := h; exact ⟨F, h1, fun r hr => h2 r (hs r hr)⟩
theorem row_lt {w : World} {base k n : Nat} {e : TypeId} {v : Value} {xs : List Value} (h : w.ownsRow base e k v n xs) {g : Nat} (hg : v.ownBlock = some g) : base ≤ g ∧ g < w.heap.size := by
  rcases row_form h with ⟨rfl, _⟩ | ⟨g', cap, rfl, h1, h2, _⟩
  · simp [Value.ownBlock] at hg
  · simp [Value.ownBlock] at hg; subst hg; exact ⟨h2, h1⟩
theorem StsF.below {w0 w w' : World} {l : List (Nat × St)} {F : Nat → Nat → Prop} (h : StsF w0 w l F) (hb : Below w.heap.size w w') : StsF w0 w' l F :=
  ⟨h.base.trans (hb.mono h.base.size), fun j b s hj => ⟨(h.each j b s hj).1.below hb, (h.each j b s hj).2⟩, h.apart⟩
theorem Env.below {w0 w w' : World} {l : List (Nat × St)} {rs : List (Value × List Ob)} (h : Env w0 w l rs) (hb : Below w.heap.size w w') : Env w0 w' l rs := by
  obtain ⟨F, h1, h2⟩ := h
  exact ⟨F, h1.below hb, fun r hr => ⟨row_below (h2 r hr).1 hb, (h2 r hr).2⟩⟩
theorem StsF.lt {w0 w : World} {l : List (Nat × St)} {F : Nat → Nat → Prop} (h : StsF w0 w l F) {j i : Nat} (hj : j < l.length) (hi : F j i) : i < w.heap.size := by
  obtain ⟨x, hx⟩ : ∃ x, l[j]? = some x := ⟨l[j], List.getElem?_eq_getElem hj⟩
  obtain ⟨b2, s2⟩ := x
  obtain ⟨_, _, _, _, _, _, _, _, h7, _⟩ := (h.each j b2 s2 hx).1
  exact h7 i hi
theorem Env.row {w0 w w' : World} {l : List (Nat × St)} {rs : List (Value × List Ob)} (h : Env w0 w l rs) (hb : Below w.heap.size w w') {v : Value} {M : List Ob} (hr : w'.ownsRow w.heap.size 28 2 v M.length (objCells M)) : Env w0 w' l ((v, M) :: rs) := by
  have h' := h
  obtain ⟨F, h1, h2⟩ := h
  refine ⟨F, h1.below hb, fun r hr' => ?_⟩
  rcases List.mem_cons.1 hr' with rfl | hr'
  · refine ⟨row_base hr (Nat.zero_le _), fun g hg j hj hF => ?_⟩
    have := (row_lt hr hg).1
    have := h1.lt hj hF
    omega
  · exact ⟨row_below (h2 r hr').1 hb, (h2 r hr').2⟩
theorem Env.call {w0 w : World} {l : List (Nat × St)} {rs : List (Value × List Ob)} (h : Env w0 w l rs) (j : Nat) {b : Nat} {s : St} (hj : l[j]? = some (b, s)) : ∃ S, IsSt w S b s ∧ (∀ i, S i → w0.heap.size ≤ i) ∧ ∀ w' s', After w w' S b s' → Env w0 w' (l.set j (b, s')) rs := by
  obtain ⟨F, h1, h2⟩ := h
  have hjl : j < l.length := (List.getElem?_eq_some_iff.1 hj).1
  obtain ⟨k1, k2, k3⟩ := h1.call j hj
  refine ⟨F j, k1, k2, fun w' s' ha => ?_⟩
  obtain ⟨F', k4, k5⟩ := k3 w' s' ha
  obtain ⟨_, _, _, hO⟩ := ha
  refine ⟨F', k4, fun r hr => ⟨row_block (h2 r hr).1 fun g hg hl => hO.block g hl ((h2 r hr).2 g hg j hjl), fun g hg k hk hF => ?_⟩⟩
  rw [List.length_set] at hk
  rcases k5 k g hF with h | h
  · exact (h2 r hr).2 g hg k hk h
  · have := (row_lt (h2 r hr).1 hg).2; omega
theorem Env.push {w0 w w' : World} {l : List (Nat × St)} {rs : List (Value × List Ob)} (h : Env w0 w l rs) {b : Nat} {s : St} {S : Nat → Prop} (hs : IsSt w' S b s) (hS : ∀ i, S i → w.heap.size ≤ i) (hb : Below w.heap.size w w') : Env w0 w' (l ++ [(b, s)]) rs := by
  obtain ⟨F, h1, h2⟩ := h
  have h3 := h1.below hb
  refine ⟨fun k => if k = l.length then S else F k, ⟨h3.base, ?_, ?_⟩, ?_⟩
  · intro k b1 s1 hk
    by_cases e : k = l.length
    · subst e
      simp only [List.getElem?_concat_length, Option.some.injEq, Prod.mk.injEq] at hk
      obtain ⟨rfl, rfl⟩ := hk
      simp only [if_true]
      exact ⟨hs, fun i hi => Nat.le_trans h1.base.size (hS i hi)⟩
    · have hkl : k < l.length := by
        have := (List.getElem?_eq_some_iff.1 hk).1
        simp at this; omega
      rw [List.getElem?_append_left hkl] at hk
      simp only [if_neg e]
      exact h3.each k b1 s1 hk
  · intro k m hk hm hkm i hi hi'
    simp only [List.length_append, List.length_singleton] at hk hm
    have new : ∀ n, n < l.length → F n i → S i → False := fun n hn a b => by
      have := h1.lt hn a
      have := hS i b; omega
    by_cases ek : k = l.length
    · subst ek
      simp only [if_true] at hi
      simp only [if_neg (fun h : m = l.length => hkm h.symm)] at hi'
      exact new m (by omega) hi' hi
    · simp only [if_neg ek] at hi
      by_cases em : m = l.length
      · subst em
        simp only [if_true] at hi'
        exact new k (by omega) hi hi'
      · simp only [if_neg em] at hi'
        exact h1.apart k m (by omega) (by omega) hkm i hi hi'
  · intro r hr
    refine ⟨row_below (h2 r hr).1 hb, fun g hg k hk hF => ?_⟩
    simp only [List.length_append, List.length_singleton] at hk
    have hgl := (row_lt (h2 r hr).1 hg).2
    by_cases ek : k = l.length
    · subst ek
      simp only [if_true] at hF
      have := hS g hF; omega
    · simp only [if_neg ek] at hF
      exact (h2 r hr).2 g hg k (by omega) hF
theorem Env.objects {w0 w : World} {l : List (Nat × St)} {rs : List (Value × List Ob)} (h : Env w0 w l rs) (j : Nat) {b : Nat} {s : St} (hj : l[j]? = some (b, s)) (hs : s.seen.length ≤ 1000000) : Calls Try.prog 26 #[ptr b] w fun x w' => ∃ v, x = .returned v ∧ Env w0 w' l ((v, s.seen) :: rs) := by
  obtain ⟨S, h1, _⟩ := h.call j hj
  exact (objects_any h1 hs).mono fun _ _ ⟨v, h1, h2, h3⟩ => ⟨v, h1, h.row h3 h2⟩
theorem Env.new {w0 w : World} {l : List (Nat × St)} {rs : List (Value × List Ob)} (h : Env w0 w l rs) : Calls Try.prog 9 #[] w fun e w' => ∃ b, e = .returned (ptr b) ∧ Env w0 w' (l ++ [(b, st0)]) rs :=
  (new_any w).mono fun _ _ ⟨b, _, h1, h2, h3, h4⟩ => ⟨b, h1, h.push h2 h3 h4⟩
theorem Env.copy {w0 w : World} {l : List (Nat × St)} {rs : List (Value × List Ob)} (h : Env w0 w l rs) (j : Nat) {b : Nat} {s : St} (hj : l[j]? = some (b, s)) (hn : s.writes.length ≤ 1000000) : Calls Try.prog 22 #[ptr b] w fun x w' => ∃ b', x = .returned (ptr b') ∧ Env w0 w' (l ++ [(b', s)]) rs := by
  obtain ⟨S, h1, _⟩ := h.call j hj
  exact (copy_any h1 hn).mono fun _ _ ⟨b', _, h1, h2, h3, h4⟩ => ⟨b', h1, h.push h2 h3 h4⟩
theorem Env.put {w0 w : World} {l : List (Nat × St)} {rs : List (Value × List Ob)} (h : Env w0 w l rs) (j : Nat) {b : Nat} {s : St} (hj : l[j]? = some (b, s)) {N : Nat} (hF : Fit N s) (hN : N ≤ 1000000) (n d : ByteArray) : Calls Try.prog 10 #[ptr b, obv n d] w fun x w' => x = .returned (.int .i64 (putS s n d).1) ∧ Env w0 w' (l.set j (b, (putS s n d).2)) rs := by
  obtain ⟨S, h1, _, h2⟩ := h.call j hj
  exact (put_any h1 hF hN n d).mono fun x w' ⟨e, h3⟩ => ⟨e, h2 _ _ h3⟩
theorem Env.del {w0 w : World} {l : List (Nat × St)} {rs : List (Value × List Ob)} (h : Env w0 w l rs) (j : Nat) {b : Nat} {s : St} (hj : l[j]? = some (b, s)) {N : Nat} (hF : Fit N s) (hN : N ≤ 1000000) (n : ByteArray) (hn : n.size ≤ 1000000) : Calls Try.prog 29 #[ptr b, .string n] w fun x w' => x = .returned (.int .i64 (delS s n).1) ∧ Env w0 w' (l.set j (b, (delS s n).2)) rs := by
  obtain ⟨S, h1, _, h2⟩ := h.call j hj
  exact (del_any h1 hF hN n hn).mono fun x w' ⟨e, h3⟩ => ⟨e, h2 _ _ h3⟩
theorem Env.sync {w0 w : World} {l : List (Nat × St)} {rs : List (Value × List Ob)} (h : Env w0 w l rs) (j : Nat) {b : Nat} {s : St} (hj : l[j]? = some (b, s)) : Calls Try.prog 28 #[ptr b] w fun x w' => x = .returned (.int .i64 (Ytpeeelnkelnlkaa.sync s).1) ∧ Env w0 w' (l.set j (b, (Ytpeeelnkelnlkaa.sync s).2)) rs := by
  obtain ⟨S, h1, _, h2⟩ := h.call j hj
  exact (sync_any h1).mono fun x w' ⟨e, h3⟩ => ⟨e, h2 _ _ h3⟩
theorem Env.strike {w0 w : World} {l : List (Nat × St)} {rs : List (Value × List Ob)} (h : Env w0 w l rs) (j : Nat) {b : Nat} {s : St} (hj : l[j]? = some (b, s)) {N : Nat} (hF : Fit N s) (hN : N ≤ 1000000) (k t n a c : Int) (hb : 0 ≤ k ∧ k < 256 ∧ n < 9223372036854775808 ∧ a < 9223372036854775808) : Calls Try.prog 15 #[ptr b, fv k t n a c] w fun x w' => x = .returned (.int .i64 (strikeS s k n a c).1) ∧ Env w0 w' (l.set j (b, (strikeS s k n a c).2)) rs := by
  obtain ⟨S, h1, _, h2⟩ := h.call j hj
  exact (strike_any h1 hF hN k t n a c hb.1 hb.2.1 hb.2.2.1 hb.2.2.2).mono fun x w' ⟨e, h3⟩ => ⟨e, h2 _ _ h3⟩
/-- what is kept stood before the stores did -/
theorem Env.crash {w0 w : World} {l : List (Nat × St)} {rs : List (Value × List Ob)} (h : Env w0 w l rs) (j : Nat) {b : Nat} {s : St} (hj : l[j]? = some (b, s)) {N : Nat} (hF : Fit N s) (hN : N ≤ 400000) (hlv : s.writes ≠ [] → s.live = true) {kv : Value} {ks : List Int} (hk : RdI w0 kv ks) (hkl : ks.length ≤ 9223372036854775807) : Calls Try.prog 30 #[ptr b, kv] w fun x w' => x = .returned (.int .i64 0) ∧ Env w0 w' (l.set j (b, crashS s ks)) rs := by
  have hbs := h.base
  obtain ⟨S, h1, hlo, h2⟩ := h.call j hj
  refine (crash_any h1 hF hN hlv kv ks (hk.below hbs) hkl (fun g o n c hh hn hg => ?_)).mono fun x w' ⟨e, h3⟩ => ⟨e, h2 _ _ h3⟩
  have h3 := hlo g hg
  rcases hk with ⟨A', c', e, _⟩ | ⟨g', o', c', _, e, hg', _⟩
  · rw [hh] at e; cases e; omega
  · rw [hh] at e; cases e; omega
theorem Env.up {w0 w : World} {l : List (Nat × St)} {rs : List (Value × List Ob)} (h : Env w0 w l rs) (j : Nat) {b : Nat} {s : St} (hj : l[j]? = some (b, s)) : Calls Try.prog 13 #[ptr b] w fun x w' => x = .returned (.bool (!s.down)) ∧ Env w0 w' l rs := by
  obtain ⟨S, h1, _⟩ := h.call j hj
  exact (up_any h1).mono fun x w' ⟨e, h3⟩ => ⟨e, h3 ▸ h⟩
theorem Env.sound {w0 w : World} {l : List (Nat × St)} {rs : List (Value × List Ob)} (h : Env w0 w l rs) (j : Nat) {b : Nat} {s : St} (hj : l[j]? = some (b, s)) : Calls Try.prog 14 #[ptr b] w fun x w' => x = .returned (.bool (!s.down && s.refuse.isNone)) ∧ Env w0 w' l rs := by
  obtain ⟨S, h1, _⟩ := h.call j hj
  exact (sound_any h1).mono fun x w' ⟨e, h3⟩ => ⟨e, h3 ▸ h⟩
theorem Env.sameObj {w0 w : World} {l : List (Nat × St)} {rs : List (Value × List Ob)} (h : Env w0 w l rs) {r1 r2 : Value × List Ob} (h1 : r1 ∈ rs) (h2 : r2 ∈ rs) : Calls Try.prog 31 #[r1.1, r2.1] w fun x w' => x = .returned (.bool (decide (r1.2 = r2.2))) ∧ Env w0 w' l rs :=
  (sameObj_any (h.rowOf h1) (h.rowOf h2)).mono fun _ _ ⟨e, h3⟩ => ⟨e, h.below h3⟩
theorem Env.same {w0 w : World} {l : List (Nat × St)} {rs : List (Value × List Ob)} (h : Env w0 w l rs) (j k : Nat) {b c : Nat} {s t : St} (hj : l[j]? = some (b, s)) (hk : l[k]? = some (c, t)) : Calls Try.prog 23 #[ptr b, ptr c] w fun x w' => x = .returned (.bool (sameS s t)) ∧ Env w0 w' l rs := by
  obtain ⟨S, h1, _⟩ := h.call j hj
  obtain ⟨T, h2, _⟩ := h.call k hk
  exact (same_any h1 h2).mono fun x w' ⟨e, h3⟩ => ⟨e, h.below h3⟩
/-! sizes -/
theorem Fit.more {N N' : Nat} {s : St} (h : Fit N s) (hN : N ≤ N') : Fit N' s := ⟨Nat.le_trans h.seen hN, Nat.le_trans h.writes hN, h.names, h.datas, h.wnames, h.was, h.now, h.refuse, h.room⟩
theorem counted_eq (s : St) : (counted s).2 = { s with refuse := (counted s).2.refuse } := by
  unfold counted; split <;> (cases s; simp_all)
theorem counted_refuse (s : St) : ((counted s).1 = false ∧ s.refuse = none ∧ (counted s).2.refuse = none) ∨ (∃ m, (counted s).1 = false ∧ s.refuse = some (m + 1) ∧ (counted s).2.refuse = some m) ∨ ((counted s).1 = true ∧ s.refuse = some 0 ∧ (counted s).2.refuse = none) := by
  unfold counted
  cases h : s.refuse with
  | none => exact .inl ⟨rfl, rfl, h⟩
  | some n => cases n with
    | zero => exact .inr (.inr ⟨rfl, rfl, rfl⟩)
    | succ m => exact .inr (.inl ⟨m, rfl, rfl, rfl⟩)
/-- what a write that was tried did -/
inductive Did (s : St) (n : ByteArray) (c : Option ByteArray) : Int → St → Prop
  | ok (r : Option Nat) (h : (s.refuse = none ∧ r = none) ∨ ∃ m, s.refuse = some (m + 1) ∧ r = some m) : Did s n c 0 { s with refuse := r, live := s.live || c.isSome, seen := setC n c s.seen, writes := s.writes ++ [⟨n, look n s.seen, c⟩] }
  | no (h : s.refuse = some 0) : Did s n c 53 { s with refuse := none }
theorem tried_did (s : St) (n : ByteArray) (c : Option ByteArray) : Did s n c (tried s n c).1 (tried s n c).2 := by
  have e := counted_eq s
  rcases counted_refuse s with ⟨h1, h2, h3⟩ | ⟨m, h1, h2, h3⟩ | ⟨h1, h2, h3⟩
  · unfold tried
    rw [h1, e, h3]
    exact Did.ok none (.inl ⟨h2, rfl⟩)
  · unfold tried
    rw [h1, e, h3]
    exact Did.ok (some m) (.inr ⟨m, h2, rfl⟩)
  · unfold tried
    rw [h1, e, h3]
    exact Did.no h2
theorem setC_len (n : ByteArray) (c : Option ByteArray) (M : List Ob) : (setC n c M).length ≤ M.length + 1 := by
  have h1 : ∀ n, (drop n M).length ≤ M.length := fun n => List.length_filter_le _ _
  cases c with
  | none => exact Nat.le_succ_of_le (h1 n)
  | some d =>
    have h2 : ∀ (o : Ob) (L : List Ob), (ins o L).length = L.length + 1 := fun o L => by
      induction L with
      | nil => rfl
      | cons p r ih => unfold ins; split <;> simp [ih]
    show (put (n, d) M).length ≤ _
    unfold put
    rw [h2]
    have := h1 n
    show (drop n M).length + 1 ≤ _
    omega
theorem mem_setC' {n : ByteArray} {c : Option ByteArray} {M : List Ob} {p : Ob} (h : p ∈ setC n c M) : p ∈ M ∨ (p.1 = n ∧ c = some p.2) := by
  cases c with
  | none => exact .inl (mem_drop.1 h).1
  | some d =>
    rcases mem_put.1 h with rfl | h
    · exact .inr ⟨rfl, rfl⟩
    · exact .inl h.1
theorem look_mem {n d : ByteArray} {M : List Ob} (h : look n M = some d) : ∃ p ∈ M, p.1 = n ∧ p.2 = d := by
  unfold look at h
  cases hf : M.find? (fun p => decide (p.1 = n)) with
  | none => rw [hf] at h; cases h
  | some p =>
    rw [hf] at h
    exact ⟨p, List.mem_of_find?_eq_some hf, by simpa using List.find?_some hf, by simpa using h⟩
theorem look_size {n : ByteArray} {M : List Ob} {K : Nat} (h : ∀ p ∈ M, p.2.size ≤ K) : ((look n M).getD ⟨#[]⟩).size ≤ K := by
  cases hl : look n M with
  | none => exact Nat.zero_le _
  | some d => obtain ⟨p, hp, _, rfl⟩ := look_mem hl; exact h p hp
theorem Did.fit {s : St} {n : ByteArray} {c : Option ByteArray} {e : Int} {s' : St} (h : Did s n c e s') {N : Nat} (hF : Fit N s) (hn : n.size ≤ 80) (hc : (c.getD ⟨#[]⟩).size ≤ 65536) : Fit (N + 1) s' := by
  cases h with
  | no h => exact ⟨Nat.le_succ_of_le hF.seen, Nat.le_succ_of_le hF.writes, hF.names, hF.datas, hF.wnames, hF.was, hF.now, fun k hk => (by cases hk), hF.room⟩
  | ok r h =>
    refine ⟨Nat.le_trans (setC_len _ _ _) (Nat.succ_le_succ hF.seen), ?_, ?_, ?_, ?_, ?_, ?_, ?_, hF.room⟩
    · have := hF.writes; simp; omega
    · intro p hp
      rcases mem_setC' hp with h | ⟨h, _⟩
      · exact hF.names p h
      · rw [h]; exact hn
    · intro p hp
      rcases mem_setC' hp with h | ⟨_, h⟩
      · exact hF.datas p h
      · rw [h] at hc; exact hc
    · intro q hq
      rcases List.mem_append.1 hq with h | h
      · exact hF.wnames q h
      · rw [List.mem_singleton] at h; subst h; exact hn
    · intro q hq
      rcases List.mem_append.1 hq with h | h
      · exact hF.was q h
      · rw [List.mem_singleton] at h; subst h; exact look_size hF.datas
    · intro q hq
      rcases List.mem_append.1 hq with h | h
      · exact hF.now q h
      · rw [List.mem_singleton] at h; subst h; exact hc
    · intro k hk
      rcases h with ⟨_, h⟩ | ⟨m, h1, h⟩
      · rw [h] at hk; cases hk
      · rw [h] at hk; cases hk; have := hF.refuse _ h1; omega
/-- what put did -/
theorem put_did (s : St) (n d : ByteArray) : ((putS s n d).1 ≠ 0 ∧ (putS s n d).1 ≠ 53 ∧ (putS s n d).2 = s) ∨ (n.size ≤ 80 ∧ d.size ≤ 65536 ∧ Did s n (some d) (putS s n d).1 (putS s n d).2) := by
  unfold putS
  by_cases h1 : badName n d = true
  · rw [if_pos h1]; exact .inl ⟨by simp, by simp, rfl⟩
  · rw [if_neg h1]
    by_cases h2 : s.down = true
    · rw [if_pos h2]; exact .inl ⟨by simp, by simp, rfl⟩
    · rw [if_neg h2]
      by_cases h3 : over s n d = true
      · rw [if_pos h3]; exact .inl ⟨by simp, by simp, rfl⟩
      · rw [if_neg h3]
        unfold badName at h1
        simp only [Bool.or_eq_true, decide_eq_true_eq, not_or] at h1
        exact .inr ⟨by omega, by omega, tried_did _ _ _⟩
theorem get_ok {s : St} {n : ByteArray} (h : (get s n).2 = 0) : s.down = false ∧ look n s.seen = some (get s n).1 := by
  unfold get at *
  cases hd : s.down with
  | true => rw [hd] at h; simp at h
  | false =>
    rw [hd] at h
    simp only [Bool.false_eq_true, if_false] at h ⊢
    cases hl : look n s.seen with
    | none => rw [hl] at h; simp at h
    | some d => simp
theorem get_err (s : St) (n : ByteArray) : (get s n).2 ≠ 53 := by
  unfold get
  split
  · simp
  · split <;> simp
theorem del_did (s : St) (n : ByteArray) {N : Nat} (hF : Fit N s) : ((delS s n).1 ≠ 0 ∧ (delS s n).1 ≠ 53 ∧ (delS s n).2 = s) ∨ (n.size ≤ 80 ∧ Did s n none (delS s n).1 (delS s n).2) := by
  unfold delS
  by_cases h : (get s n).2 = 0
  · rw [if_pos h]
    obtain ⟨p, hp, rfl, _⟩ := look_mem (get_ok h).2
    exact .inr ⟨hF.names p hp, tried_did _ _ _⟩
  · rw [if_neg h]
    exact .inl ⟨h, get_err s n, rfl⟩
theorem put_fit {N : Nat} {s : St} (hF : Fit N s) (n d : ByteArray) : Fit (N + 1) (putS s n d).2 := by
  rcases put_did s n d with ⟨_, _, h⟩ | ⟨h1, h2, h⟩
  · rw [h]; exact hF.more (Nat.le_succ _)
  · exact h.fit hF h1 h2
theorem del_fit {N : Nat} {s : St} (hF : Fit N s) (n : ByteArray) : Fit (N + 1) (delS s n).2 := by
  rcases del_did s n hF with ⟨_, _, h⟩ | ⟨h1, h⟩
  · rw [h]; exact hF.more (Nat.le_succ _)
  · exact h.fit hF h1 (Nat.zero_le _)
end Go.Proofs.Ytpeeelnkelnlkaa
