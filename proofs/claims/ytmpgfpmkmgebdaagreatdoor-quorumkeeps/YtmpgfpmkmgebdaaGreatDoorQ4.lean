/- Quorum, no program: all stores gathered, gone through; the newest. -/
import Derived.Test.YtmpgfpmkmgebdaaGreatDoorQ3
namespace Go.Proofs.YtmpgfpmkmgebdaaGreatDoor
open Go.RowKit Go.Maps
open W
theorem foldl_cut (f : Nat → Hd → Wd → Int × Hd × Wd) : ∀ (l : List Nat) (s : ES), s.cut = true → l.foldl (oneE f) s = s
  | [], _, _ => rfl
  | i :: t, s, h => by
    have : oneE f s i = s := by
      unfold oneE
      rw [if_pos h]
    rw [List.foldl_cons, this]
    exact foldl_cut f t s h
/-- what there is behind all stores have been gone through -/
structure Gone (n : Int) (R D : Bst → Prop) (Q : St → Prop) (fr rest : List Kp) (dn : Nat) (s' : ES) : Prop where
  out : ∃ rest', s'.V.l = fr ++ rest' ∧ rest'.map (·.sus) = rest.map (·.sus) ∧ (∀ x ∈ rest', InvS n R D x) ∧
    ((s'.cut = true ∧ s'.V.dark = true) ∨ (s'.cut = false ∧ s'.V.dark = false ∧ s'.l = (fr ++ rest').map (fun x => hdOf n x.st) ∧ (∀ x ∈ rest', x.st.writes = [] ∧ (x.sus = false → Q x.st)) ∧
      dn + rest.countP (fun x => !x.sus) ≤ s'.dn ∧ s'.dn ≤ dn + rest.length ∧ (s'.dn = dn + rest.length → ∀ x ∈ rest', Q x.st)))
theorem phase {n : Int} {R D : Bst → Prop} {Q : St → Prop} {f : Nat → Hd → Wd → Int × Hd × Wd} : ∀ (rest fr : List Kp) (s : ES), s.cut = false → s.V.dark = false → s.V.l = fr ++ rest → s.l = (fr ++ rest).map (fun x => hdOf n x.st) → (∀ x ∈ rest, x.st.writes = []) → (∀ x ∈ rest, InvS n R D x) →
    (∀ x ∈ rest, ∀ i V, V.dark = false → V.l[i]? = some x → x.st.down = false → x.st.writes = [] → InvS n R D x → Step n R D Q i x V (f i (hdOf n x.st) V)) →
    Gone n R D Q fr rest s.dn ((idx fr.length (rest.map fun x => hdOf n x.st)).foldl (oneE f) s)
  | [], fr, s, h1, h2, h3, h4, _, _, _ => ⟨[], h3, rfl, fun x hx => by simp at hx, .inr ⟨h1, h2, h4, fun x hx => by simp at hx, by simp [idx], by simp [idx], fun _ x hx => by simp at hx⟩⟩
  | x :: t, fr, s, h1, h2, h3, h4, h5, h6, h7 => by
    have hw := h5 x List.mem_cons_self
    have hI := h6 x List.mem_cons_self
    rw [List.map_cons]
    unfold idx
    cases hd : x.st.down with
    | true =>
      have hs : x.sus = true := by
        cases hs : x.sus with
        | true => rfl
        | false => have := (hI.up hs).1; rw [hd] at this; cases this
      have ha : (hdOf n x.st).ans = false := by
        unfold hdOf
        rw [hd]
        rfl
      rw [if_neg (by rw [ha]; decide)]
      obtain ⟨rest', o1, o2, o3, o4⟩ := (phase (Q := Q) (f := f) t (fr ++ [x]) s h1 h2 (by rw [h3]; simp) (by rw [h4]; simp) (fun y hy => h5 y (List.mem_cons_of_mem _ hy)) (fun y hy => h6 y (List.mem_cons_of_mem _ hy)) (fun y hy => h7 y (List.mem_cons_of_mem _ hy))).out
      rw [List.length_append, List.length_singleton] at o1 o4
      refine ⟨x :: rest', by rw [o1]; simp, by rw [List.map_cons, List.map_cons, o2], fun y hy => ?_, ?_⟩
      · rcases List.mem_cons.1 hy with rfl | hy
        · exact hI
        · exact o3 y hy
      · rcases o4 with o4 | ⟨p1, p2, p3, p4, p5, p6, p7⟩
        · exact .inl o4
        · refine .inr ⟨p1, p2, by rw [p3]; simp, fun y hy => ?_, ?_, by rw [List.length_cons]; omega, fun e => ?_⟩
          · rcases List.mem_cons.1 hy with rfl | hy
            · exact ⟨hw, fun e => by rw [hs] at e; cases e⟩
            · exact p4 y hy
          · rw [List.countP_cons, hs]
            simpa using p5
          · rw [List.length_cons] at e
            omega
    | false =>
      have ha : (hdOf n x.st).ans = true := by
        rw [hdOf_up hd]
      rw [if_pos ha, List.foldl_cons]
      have hx : s.V.l[fr.length]? = some x := by
        rw [h3, List.getElem?_append_right (Nat.le_refl _)]
        simp
      have hl : s.l[fr.length]? = some (hdOf n x.st) := by
        rw [h4, List.getElem?_map, ← h3, hx]
        rfl
      have hone : oneE f s fr.length = ⟨s.l.set fr.length (f fr.length (hdOf n x.st) s.V).2.1, if (f fr.length (hdOf n x.st) s.V).1 = 0 then s.dn + 1 else s.dn, (f fr.length (hdOf n x.st) s.V).2.2, decide ((f fr.length (hdOf n x.st) s.V).1 = 56)⟩ := by
        unfold oneE
        rw [h1, hl]
        simp
      obtain ⟨s', q1, q2, q3⟩ := h7 x List.mem_cons_self fr.length s.V h2 hx hd hw hI
      rw [hone]
      generalize f fr.length (hdOf n x.st) s.V = r at *
      obtain ⟨re, rh, rV⟩ := r
      simp only at q1 q3 ⊢
      have hV : rV.l = fr ++ { x with st := s' } :: t := by
        rw [q1, h3, List.set_append_right _ _ (Nat.le_refl _)]
        simp
      rcases q3 with ⟨c1, c2⟩ | ⟨c1, c2, c3, c4, c5, c6⟩
      · rw [foldl_cut f _ _ (by simpa using c1)]
        refine ⟨{ x with st := s' } :: t, hV, rfl, fun y hy => ?_, .inl ⟨by simpa using c1, c2⟩⟩
        rcases List.mem_cons.1 hy with rfl | hy
        · exact q2
        · exact h6 y (List.mem_cons_of_mem _ hy)
      · have hcut : decide (re = 56) = false := by simpa using c1
        have hll : s.l.set fr.length rh = (fr ++ [({ x with st := s' } : Kp)] ++ t).map (fun y : Kp => hdOf n y.st) := by
          rw [h4, c4]
          simp only [List.map_append, List.map_cons, List.append_assoc, List.singleton_append]
          rw [List.set_append_right _ _ (by simp), List.length_map, Nat.sub_self]
          rfl
        obtain ⟨dn0, hdn⟩ : ∃ d : Nat, d = if re = 0 then s.dn + 1 else s.dn := ⟨_, rfl⟩
        have hd0 : (re = 0 → dn0 = s.dn + 1) ∧ (re ≠ 0 → dn0 = s.dn) := ⟨fun h => by rw [hdn, if_pos h], fun h => by rw [hdn, if_neg h]⟩
        have hd1 : s.dn ≤ dn0 ∧ dn0 ≤ s.dn + 1 := by
          by_cases h0 : re = 0
          · rw [hd0.1 h0]; omega
          · rw [hd0.2 h0]; omega
        rw [← hdn]
        clear hdn
        obtain ⟨rest', o1, o2, o3, o4⟩ := (phase (Q := Q) (f := f) t (fr ++ [{ x with st := s' }]) ⟨s.l.set fr.length rh, dn0, rV, decide (re = 56)⟩ hcut c2 (by rw [hV]; simp) hll (fun y hy => h5 y (List.mem_cons_of_mem _ hy)) (fun y hy => h6 y (List.mem_cons_of_mem _ hy)) (fun y hy => h7 y (List.mem_cons_of_mem _ hy))).out
        rw [List.length_append, List.length_singleton] at o1 o4
        simp only at o4
        generalize List.foldl (oneE f) _ _ = s2 at *
        refine ⟨{ x with st := s' } :: rest', by rw [o1]; simp, by rw [List.map_cons, List.map_cons, o2], fun y hy => ?_, ?_⟩
        · rcases List.mem_cons.1 hy with rfl | hy
          · exact q2
          · exact o3 y hy
        · rcases o4 with o4 | ⟨p1, p2, p3, p4, p5, p6, p7⟩
          · exact .inl o4
          · refine .inr ⟨p1, p2, by rw [p3]; simp, fun y hy => ?_, ?_, ?_, fun e => ?_⟩
            · rcases List.mem_cons.1 hy with rfl | hy
              · exact ⟨c3, fun e => c6 (c5 e)⟩
              · exact p4 y hy
            · rw [List.countP_cons]
              cases hs : x.sus with
              | false =>
                have := hd0.1 (c5 hs)
                simp only [Bool.not_false, if_true]
                omega
              | true =>
                simp only [Bool.not_true, Bool.false_eq_true, if_false]
                omega
            · rw [List.length_cons]
              omega
            · rw [List.length_cons] at e
              have h0 : re = 0 := by
                by_cases h0 : re = 0
                · exact h0
                · have := hd0.2 h0
                  omega
              have := hd0.1 h0
              intro y hy
              rcases List.mem_cons.1 hy with rfl | hy
              · exact c6 h0
              · exact p7 (by omega) y hy
/-- all stores are gathered -/
theorem gath_is (n : Int) : ∀ (rest fr : List Kp) (V : Wd) (acc : List Hd), V.l = fr ++ rest → V.dark = false →
    ((gath n rest.length fr.length V acc).1 = 56 ∧ (gath n rest.length fr.length V acc).2.1.dark = true ∧ (gath n rest.length fr.length V acc).2.1.l = V.l) ∨
    ((gath n rest.length fr.length V acc).1 = 0 ∧ (gath n rest.length fr.length V acc).2.1.dark = false ∧ (gath n rest.length fr.length V acc).2.1.l = V.l ∧ (gath n rest.length fr.length V acc).2.2 = acc ++ rest.map fun x => hdOf n x.st)
  | [], fr, V, acc, _, hd => .inr ⟨rfl, hd, rfl, by simp [gath]⟩
  | x :: t, fr, V, acc, hV, hd => by
    have hx : V.l[fr.length]? = some x := by
      rw [hV, List.getElem?_append_right (Nat.le_refl _)]
      simp
    rw [List.length_cons]
    unfold gath
    rcases get_lit hx m0 with ⟨a1, a2, a3⟩ | ⟨a1, a2, a3⟩
    · rw [if_pos a1]
      exact .inl ⟨rfl, a2, a3⟩
    · have hx1 : (askW V (fr.length : Int)).l[fr.length]? = some x := by rw [a3]; exact hx
      rw [if_neg (by rw [a1]; exact get_not_cut _ _)]
      rcases get_lit hx1 m1 with ⟨b1, b2, b3⟩ | ⟨b1, b2, b3⟩
      · rw [if_pos b1]
        exact .inl ⟨rfl, b2, b3.trans a3⟩
      · rw [if_neg (by rw [b1]; exact get_not_cut _ _), a1, b1]
        have hh : (⟨okE (W.get x.st m0).2 && okE (W.get x.st m1).2, lookd n (W.get x.st m0).1, lookd n (W.get x.st m1).1⟩ : Hd) = hdOf n x.st := by
          have hm : mn 0 = m0 ∧ mn 1 = m1 := ⟨rfl, rfl⟩
          unfold hdOf W.get sl
          rw [hm.1, hm.2]
          cases hdn : x.st.down with
          | true => simp [lookd_none, okE, zH]
          | false =>
            simp only [Bool.false_eq_true, if_false]
            cases W.look m0 x.st.seen <;> cases W.look m1 x.st.seen <;> simp [lookd_none, okE]
        rw [hh]
        have := gath_is n t (fr ++ [x]) (askW (askW V (fr.length : Int)) (fr.length : Int)) (acc ++ [hdOf n x.st]) (by rw [b3, a3, hV]; simp) b2
        rw [List.length_append, List.length_singleton] at this
        rcases this with ⟨c1, c2, c3⟩ | ⟨c1, c2, c3, c4⟩
        · exact .inl ⟨c1, c2, c3.trans (b3.trans a3)⟩
        · exact .inr ⟨c1, c2, c3.trans (b3.trans a3), by rw [c4]; simp⟩
theorem gathW_is {n : Int} {V : Wd} (hn : (V.l.length : Int) = n) (hd : V.dark = false) :
    ((gathW V).1 = 56 ∧ (gathW V).2.1.dark = true ∧ (gathW V).2.1.l = V.l) ∨
    ((gathW V).1 = 0 ∧ (gathW V).2.1.dark = false ∧ (gathW V).2.1.l = V.l ∧ (gathW V).2.2 = V.l.map fun x => hdOf n x.st) := by
  have := gath_is n V.l [] V [] rfl hd
  unfold gathW
  rw [hn]
  simpa using this
theorem idx_mem : ∀ (l : List Hd) (i j : Nat), j ∈ idx i l ↔ ∃ h, i ≤ j ∧ l[j - i]? = some h ∧ h.ans = true
  | [], i, j => by simp [idx]
  | h :: t, i, j => by
    unfold idx
    have ih := idx_mem t (i + 1) j
    have key : (∃ g, i ≤ j ∧ (h :: t)[j - i]? = some g ∧ g.ans = true) ↔ (j = i ∧ h.ans = true) ∨ ∃ g, i + 1 ≤ j ∧ t[j - (i + 1)]? = some g ∧ g.ans = true := by
      constructor
      · rintro ⟨g, g1, g2, g3⟩
        by_cases hj : j = i
        · subst hj
          simp at g2
          subst g2
          exact .inl ⟨rfl, g3⟩
        · rw [show j - i = (j - (i + 1)) + 1 by omega, List.getElem?_cons_succ] at g2
          exact .inr ⟨g, by omega, g2, g3⟩
      · rintro (⟨rfl, g3⟩ | ⟨g, g1, g2, g3⟩)
        · exact ⟨h, Nat.le_refl _, by simp, g3⟩
        · exact ⟨g, by omega, by rw [show j - i = (j - (i + 1)) + 1 by omega, List.getElem?_cons_succ]; exact g2, g3⟩
    rw [key, ← ih]
    split
    · rename_i ha
      rw [List.mem_cons]
      simp [ha]
    · rename_i ha
      simp [ha]
theorem idx_len : ∀ (l : List Hd) (i : Nat), (idx i l).length = l.countP (·.ans)
  | [], _ => rfl
  | h :: t, i => by
    unfold idx
    rw [List.countP_cons]
    split
    · rw [List.length_cons, idx_len t (i + 1)]
    · rw [idx_len t (i + 1)]
      rfl
theorem ls_trans {a b c : Bst} (h : ls a b = false) (k : ls b c = false) : ls a c = false := by
  rw [ls_false] at *
  omega
theorem ls_self (a : Bst) : ls a a = false := by
  rw [ls_false]
  omega
theorem upR_is (b r : Rp) : (b.sd = true → (upR b r).sd = true ∧ ls (upR b r).b b.b = false) ∧ (r.sd = true → (upR b r).sd = true ∧ ls (upR b r).b r.b = false) ∧ (upR b r = b ∨ (upR b r = r ∧ r.sd = true)) := by
  unfold upR
  cases hr : r.sd <;> cases hb : b.sd
  · simp [hb]
  · simp [hb, ls_self]
  · simp [hr, ls_self]
  · cases hl : ls b.b r.b with
    | false => simp [hb, hl, ls_self]
    | true =>
      have : ls r.b b.b = false := by
        rw [ls_true] at hl
        rw [ls_false]
        omega
      simp [hr, this, ls_self]
/-- the newest: what is found is one of those that answer, and not less than any -/
theorem nw_fold (l : List Hd) : ∀ (ids : List Nat) (b : Rp), (∀ i ∈ ids, ∀ h, l[i]? = some h → ∀ c, (h.r0 = ⟨true, c⟩ ∨ h.r1 = ⟨true, c⟩) → (ids.foldl (upH l) b).sd = true ∧ ls (ids.foldl (upH l) b).b c = false) ∧
    (b.sd = true → (ids.foldl (upH l) b).sd = true ∧ ls (ids.foldl (upH l) b).b b.b = false) ∧ (ids.foldl (upH l) b = b ∨ ∃ i ∈ ids, ∃ h, l[i]? = some h ∧ (h.r0 = ids.foldl (upH l) b ∨ h.r1 = ids.foldl (upH l) b) ∧ (ids.foldl (upH l) b).sd = true)
  | [], b => ⟨fun i hi => by simp at hi, fun h => ⟨h, ls_self _⟩, .inl rfl⟩
  | i :: t, b => by
    rw [List.foldl_cons]
    obtain ⟨n1, n2, n3⟩ := nw_fold l t (upH l b i)
    have hmono : b.sd = true → (upH l b i).sd = true ∧ ls (upH l b i).b b.b = false := by
      intro hb
      unfold upH
      split
      · rename_i h _
        obtain ⟨a1, _⟩ := upR_is b h.r0
        obtain ⟨c1, _⟩ := upR_is (upR b h.r0) h.r1
        obtain ⟨a2, a3⟩ := a1 hb
        obtain ⟨c2, c3⟩ := c1 a2
        exact ⟨c2, ls_trans c3 a3⟩
      · exact ⟨hb, ls_self _⟩
    have hin : ∀ h, l[i]? = some h → ∀ c, (h.r0 = ⟨true, c⟩ ∨ h.r1 = ⟨true, c⟩) → (upH l b i).sd = true ∧ ls (upH l b i).b c = false := by
      intro h hh c hc
      unfold upH
      rw [hh]
      simp only
      obtain ⟨_, a2, _⟩ := upR_is b h.r0
      obtain ⟨c1, c2, _⟩ := upR_is (upR b h.r0) h.r1
      rcases hc with hc | hc
      · rw [hc] at a2 c1 ⊢
        obtain ⟨d1, d2⟩ := a2 rfl
        obtain ⟨e1, e2⟩ := c1 d1
        exact ⟨e1, ls_trans e2 d2⟩
      · rw [hc] at c2 ⊢
        exact c2 rfl
    have hfrom : upH l b i = b ∨ ∃ h, l[i]? = some h ∧ (h.r0 = upH l b i ∨ h.r1 = upH l b i) ∧ (upH l b i).sd = true := by
      unfold upH
      split
      · rename_i h hh
        rcases (upR_is (upR b h.r0) h.r1).2.2 with e | ⟨e, e'⟩
        · rw [e]
          rcases (upR_is b h.r0).2.2 with e1 | ⟨e1, e1'⟩
          · exact .inl e1
          · exact .inr ⟨h, hh, .inl e1.symm, by rw [e1]; exact e1'⟩
        · exact .inr ⟨h, hh, .inr e.symm, by rw [e]; exact e'⟩
      · exact .inl rfl
    refine ⟨fun j hj h hh c hc => ?_, fun hb => ?_, ?_⟩
    · rcases List.mem_cons.1 hj with rfl | hj
      · obtain ⟨d1, d2⟩ := hin h hh c hc
        obtain ⟨e1, e2⟩ := n2 d1
        exact ⟨e1, ls_trans e2 d2⟩
      · exact n1 j hj h hh c hc
    · obtain ⟨d1, d2⟩ := hmono hb
      obtain ⟨e1, e2⟩ := n2 d1
      exact ⟨e1, ls_trans e2 d2⟩
    · rcases n3 with e | ⟨j, hj, h, h1, h2, h3⟩
      · rw [e]
        rcases hfrom with e1 | ⟨h, h1, h2, h3⟩
        · exact .inl e1
        · exact .inr ⟨i, List.mem_cons_self, h, h1, h2, h3⟩
      · exact .inr ⟨j, List.mem_cons_of_mem _ hj, h, h1, h2, h3⟩
/-- the newest among stores -/
theorem nw_is {n : Int} (L : List Kp) : (∀ x ∈ L, x.st.down = false → ∀ c, Stands n x.st c → (nwst (L.map fun x => hdOf n x.st)).sd = true ∧ ls (nwst (L.map fun x => hdOf n x.st)).b c = false) ∧
    ((nwst (L.map fun x => hdOf n x.st)).sd = true → ∃ x ∈ L, x.st.down = false ∧ Stands n x.st (nwst (L.map fun x => hdOf n x.st)).b) := by
  obtain ⟨n1, _, n3⟩ := nw_fold (L.map fun x => hdOf n x.st) (idx 0 (L.map fun x => hdOf n x.st)) noR
  constructor
  · intro x hx hd c hc
    obtain ⟨i, hi⟩ := List.getElem?_of_mem hx
    have hl : (L.map fun x => hdOf n x.st)[i]? = some (hdOf n x.st) := by rw [List.getElem?_map, hi]; rfl
    have hu := hdOf_up (n := n) hd
    refine n1 i ((idx_mem _ 0 i).2 ⟨_, Nat.zero_le _, hl, by rw [hu]⟩) _ hl c ?_
    rw [hu]
    exact hc
  · intro hs
    rcases n3 with e | ⟨i, hi, h, h1, h2, h3⟩
    · unfold nwst at hs
      rw [e] at hs
      cases hs
    · obtain ⟨g, _, g1, g2⟩ := (idx_mem _ 0 i).1 hi
      have hl : (L.map fun x => hdOf n x.st)[i]? = some g := g1
      rw [hl] at h1
      cases h1
      rw [List.getElem?_map] at hl
      obtain ⟨x, hx, he⟩ := Option.map_eq_some_iff.1 hl
      refine ⟨x, List.mem_of_getElem? hx, ?_⟩
      cases hd : x.st.down with
      | true =>
        have : (hdOf n x.st).ans = false := by
          unfold hdOf
          rw [hd]
          rfl
        rw [he, g2] at this
        cases this
      | false =>
        refine ⟨rfl, ?_⟩
        rw [hdOf_up hd] at he
        subst he
        have hb : (nwst (L.map fun x => hdOf n x.st)) = ⟨true, (nwst (L.map fun x => hdOf n x.st)).b⟩ := by
          generalize nwst (L.map fun x => hdOf n x.st) = r at hs
          obtain ⟨a, c⟩ := r
          simp only at hs
          rw [hs]
        rcases h2 with h2 | h2
        · exact .inl (by rw [← hb]; exact h2)
        · exact .inr (by rw [← hb]; exact h2)
end Go.Proofs.YtmpgfpmkmgebdaaGreatDoor
