/- The program's world: Clear, Crash, Strike. -/
import Derived.Test.YtgdiaflikfdnaaaW7
namespace Go.Proofs.Ytgdiaflikfdnaaa
open Go.RowKit Go.Maps
variable {w w' w1 w2 : World} {S : Nat → Prop} {b g : Nat} {W W' : Wd}
theorem kflat_set (l : List Kp) : ∀ (j : Nat) (x : Kp) (v : Bool), l[j]? = some x → (l.set j { x with sus := v }).flatMap kcells = (l.flatMap kcells).set (j * 2 + 1) (.bool v) := by
  induction l with
  | nil => intro j x v h; simp at h
  | cons p r ih =>
    intro j x v h
    cases j with
    | zero => simp at h; subst h; rfl
    | succ j =>
      rw [List.set_cons_succ, List.flatMap_cons, List.flatMap_cons, ih j x v (by simpa using h)]
      have : (kcells p).length = 2 := rfl
      rw [List.set_append_right _ _ (by omega), this, show (j + 1) * 2 + 1 - 2 = j * 2 + 1 by omega]
/-- whether a store is suspect is written -/
theorem AfterW.sus (h : IsWd w S b g W) {j : Nat} {x : Kp} (hj : W.l[j]? = some x) (v : Bool) : AfterW w (w.setCell ⟨g, j * 2 + 1, none⟩ (.bool v)) S b g { W with l := W.l.set j { x with sus := v } } := by
  obtain ⟨cap, F, h1, h2, h3, h4, h5, h6, h7⟩ := h
  have hl : j < W.l.length := (List.getElem?_eq_some_iff.1 hj).1
  have ho : Only (fun k => k = g) w (w.setCell ⟨g, j * 2 + 1, none⟩ (.bool v)) := (Only.refl (fun k => k = g) w).set (p := ⟨g, j * 2 + 1, none⟩) (.inl rfl) _
  have hbg : b ≠ g := fun e => by
    have := row_ne h2 h1 (by decide) g rfl
    exact this e.symm
  refine ⟨S, ⟨cap, F, ?_, ?_, fun k y hk => ?_, by simpa using h4, h5, h6, fun k hk => Nat.lt_of_lt_of_le (h7 k hk) ho.size⟩, fun _ h => .inl h, ho.mono fun k hk => by subst hk; exact h6⟩
  · have := ho.has h1 hbg
    unfold wdcells at this ⊢
    simpa using this
  · simp only [List.length_set]
    rw [kflat_set W.l j x v hj]
    exact (h2.stored (j * 2 + 1) (.bool v)).1
  · by_cases e : k = j
    · subst e
      simp only [List.getElem?_set_self hl, Option.some.injEq] at hk
      subst hk
      obtain ⟨k1, k2, k3, k4⟩ := h3 k x hj
      exact ⟨k1.only ho fun i hi e => k4 (e ▸ hi), k2, k3, k4⟩
    · simp only [List.getElem?_set_ne (Ne.symm e)] at hk
      obtain ⟨k1, k2, k3, k4⟩ := h3 k y hk
      exact ⟨k1.only ho fun i hi e => k4 (e ▸ hi), k2, k3, k4⟩
theorem List.set_getElem?_self' {α : Type} : ∀ {l : List α} {k : Nat} {x : α}, l[k]? = some x → l.set k x = l
  | [], _, _, h => by simp at h
  | a :: r, 0, x, h => by simp at h; subst h; rfl
  | a :: r, k + 1, x, h => by rw [List.set_cons_succ, List.set_getElem?_self' (by simpa using h)]
def soundK (x : Kp) : Bool := !x.st.down && x.st.refuse.isNone
def clearK (x : Kp) : Kp := if soundK x then { x with sus := false } else x
/-- the first k are cleared -/
def clearL (l : List Kp) (k : Nat) : List Kp := (l.take k).map clearK ++ l.drop k
theorem clearL_get {l : List Kp} {k : Nat} {x : Kp} (h : l[k]? = some x) : (clearL l k)[k]? = some x := by
  have hl : k < l.length := (List.getElem?_eq_some_iff.1 h).1
  unfold clearL
  rw [List.getElem?_append_right (by simp; omega), List.length_map, List.length_take, List.getElem?_drop, Nat.min_eq_left (by omega), show k + (k - k) = k by omega]
  exact h
theorem clearL_len (l : List Kp) (k : Nat) : (clearL l k).length = l.length := by
  unfold clearL
  simp
  omega
theorem clearL_succ {l : List Kp} {k : Nat} {x : Kp} (h : l[k]? = some x) : clearL l (k + 1) = (clearL l k).set k (clearK x) := by
  have hl : k < l.length := (List.getElem?_eq_some_iff.1 h).1
  unfold clearL
  rw [List.take_add_one, h, List.map_append, List.set_append_right _ _ (by simp; omega), List.length_map, List.length_take, Nat.min_eq_left (by omega), Nat.sub_self, List.append_assoc]
  congr 1
  have e : l.drop k = x :: l.drop (k + 1) := by
    rw [List.drop_eq_getElem_cons hl]
    congr 1
    exact (List.getElem?_eq_some_iff.1 h).2
  rw [e]; rfl
def clearW (W : Wd) : Wd := { W with l := W.l.map clearK }
theorem clearL_all (l : List Kp) : clearL l l.length = l.map clearK := by unfold clearL; simp
set_option maxHeartbeats 2000000 in
set_option maxRecDepth 20000 in
theorem wclear_any (h : IsWd w S b g W) (hn : W.l.length ≤ 1000) : Calls Try.prog 4 #[ptr b] w fun e w' => e = .returned (.tuple #[]) ∧ AfterW w w' S b g (clearW W) := by
  have HN := n_any h
  have HH := hid h
  clear h
  unfold ptr at *
  generalize hL : W.l.length = L at *
  have HL := hid hL
  clear hL
  go_enter Try.func4, Try.ntmps4
  go_wp2_with fail
  refine HN.mono ?_
  clear HN
  rintro x w1 ⟨rfl, rfl⟩
  go_wp2_with fail
  go_loopg [5] L (fun gk s5 wx => ∃ k : Nat, k + gk = L ∧ s5 = .int .i64 (k : Int) ∧ AfterW w1 wx S b g { W with l := clearL W.l k })
  case atStart => exact ⟨0, by omega, rfl, AfterW.refl HH.out⟩
  case round =>
    obtain ⟨k, hk, rfl, hA⟩ := hrel
    have HA := hid hA
    cases gk with
    | zero =>
      have q1 : ¬ ((k : Int) < (L : Int)) := by omega
      have HE := hid (show ({ W with l := clearL W.l k } : Wd) = clearW W from by
        unfold clearW
        rw [show k = W.l.length by rw [HL.out]; omega, clearL_all])
      clear hA
      go_wp2_with fail
      go_end0
      refine ⟨rfl, ?_⟩
      have := HA.out
      rwa [HE.out] at this
    | succ g1 =>
      have q1 : (k : Int) < (L : Int) := by omega
      obtain ⟨x, hx⟩ : ∃ x, W.l[k]? = some x := ⟨_, List.getElem?_eq_getElem (by rw [HL.out]; omega)⟩
      have hx2 : (clearL W.l k)[k]? = some x := clearL_get hx
      have HT := hid (clearL_succ hx)
      obtain ⟨S2, i2, s2, o2⟩ := hA
      obtain ⟨cap, ⟨c0, _, _, _, _⟩, _, _⟩ := i2.cells
      have c0' : wr.cell? ⟨b, 0, none⟩ = some (.slice (some ⟨g, 0, none⟩) L cap) := by rw [c0]; simp only; rw [clearL_len, HL.out]
      obtain ⟨k0, k1, kf⟩ := i2.kept hx2
      have f1 := kf (k * 2 + 1)
      obtain ⟨T, t1, _, _⟩ := i2.call hx2
      have HSO := sound_any t1
      have HSU := hid (AfterW.trans s2 o2 (AfterW.sus i2 hx2 false))
      unfold ptr at *
      cases hso : soundK x with
      | true =>
        have e1 : (!x.st.down && x.st.refuse.isNone) = true := hso
        rw [e1] at HSO
        have HT2 := hid (show clearK x = { x with sus := false } from by unfold clearK; rw [hso]; rfl)
        clear e1 hso hx hx2 i2 s2 o2 c0 t1
        go_wp2_with fail
        refine HSO.mono ?_
        rintro z w3 ⟨rfl, rfl⟩
        clear HSO
        go_wp2_with fail
        go_roundg g1
        case measure => omega
        case rel => exact ⟨k + 1, by omega, by first | rfl | simp, by rw [HT.out, HT2.out]; exact HSU.out⟩
      | false =>
        have e1 : (!x.st.down && x.st.refuse.isNone) = false := hso
        rw [e1] at HSO
        have HT2 := hid (show (clearL W.l k).set k (clearK x) = clearL W.l k from by
          unfold clearK; rw [hso]
          simp only [Bool.false_eq_true, if_false]
          exact List.set_getElem?_self' hx2)
        clear e1 hso hx hx2 i2 s2 o2 c0 t1 HSU
        go_wp2_with fail
        refine HSO.mono ?_
        rintro z w3 ⟨rfl, rfl⟩
        clear HSO
        go_wp2_with fail
        go_roundg g1
        case measure => omega
        case rel => exact ⟨k + 1, by omega, by first | rfl | simp, by rw [HT.out, HT2.out]; exact HA.out⟩
end Go.Proofs.Ytgdiaflikfdnaaa
