/- The program's world: List, Suspects. -/
import Derived.Test.YtmpgfpmkmgebdaaGreatDoorWW6
namespace Go.Proofs.YtmpgfpmkmgebdaaGreatDoor.W
open Go.RowKit Go.Maps
variable {w w' w1 w2 : World} {S : Nat → Prop} {b g : Nat} {W W' : Wd}
/-- the suspect ones -/
def susL (l : List Kp) : Nat → List Nat
  | 0 => []
  | k + 1 => susL l k ++ (match l[k]? with | some x => if x.sus then [k] else [] | none => [])
def intCells (l : List Nat) : List Value := l.map fun (k : Nat) => Value.int .i64 (k : Int)
theorem susL_len (l : List Kp) : ∀ k, (susL l k).length ≤ k
  | 0 => Nat.le_refl _
  | k + 1 => by
    have := susL_len l k
    unfold susL
    rw [List.length_append]
    split
    · split <;> simp <;> omega
    · simp; omega
theorem el3 : El 54 3 1 := el_of (z := .int .i64 0) (bytes := 8) Tryz.underlying54 (by kernel_rfl) rfl (by decide) (by decide)
set_option maxHeartbeats 2000000 in
set_option maxRecDepth 20000 in
theorem wsus_any (h : IsWd w S b g W) (hn : W.l.length ≤ 1000) : Calls Tryz.prog 33 #[ptr b] w fun e w' => ∃ v, e = .returned v ∧ w'.ownsRow w.heap.size 3 1 v (susL W.l W.l.length).length (intCells (susL W.l W.l.length)) ∧ Below w.heap.size w w' := by
  have HN := n_any h
  have HH := hid h
  clear h
  unfold ptr at *
  generalize hL : W.l.length = L at *
  have HL := hid hL
  clear hL
  go_enter Tryz.func33, Tryz.ntmps33
  go_wp2_with fail
  refine HN.mono ?_
  clear HN
  rintro x w1 ⟨rfl, rfl⟩
  go_wp2_with fail
  go_loopg [3, 7] L (fun gk s3 s7 wx => ∃ k : Nat, k + gk = L ∧ s7 = .int .i64 (k : Int) ∧ wx.ownsRow w1.heap.size 3 1 s3 (susL W.l k).length (intCells (susL W.l k)) ∧ Below w1.heap.size w1 wx)
  case atStart => exact ⟨0, by omega, rfl, World.ownsRow_nil _ _ _ _, Below.refl _ _⟩
  case round =>
    obtain ⟨k, hk, rfl, hrow, hbw⟩ := hrel
    have HB := hid hbw
    have HRow := hid hrow
    cases gk with
    | zero =>
      have q1 : ¬ ((k : Int) < (L : Int)) := by omega
      have hkn : k = L := by omega
      clear hrow hbw
      go_wp2_with fail
      go_ret
      have := HRow.out
      rw [hkn] at this
      exact ⟨u3, rfl, this, HB.out⟩
    | succ g1 =>
      have q1 : (k : Int) < (L : Int) := by omega
      obtain ⟨x, hx⟩ : ∃ x, W.l[k]? = some x := ⟨_, List.getElem?_eq_getElem (by rw [HL.out]; omega)⟩
      have hI := HH.out.below hbw
      obtain ⟨cap, ⟨c0, _, _, _, _⟩, _, _⟩ := hI.cells
      rw [HL.out] at c0
      obtain ⟨_, k1, _⟩ := hI.kept hx
      have hz : w1.heap.size ≤ wr.heap.size := hbw.size
      have hsl := susL_len W.l k
      cases hsu : x.sus with
      | true =>
        rw [hsu] at k1
        have HT := hid (show susL W.l (k + 1) = susL W.l k ++ [k] from by show susL W.l k ++ _ = _; rw [hx]; simp only [hsu]; rfl)
        clear hx hI hbw hsu
        have HT1 := hid (show (susL W.l (k + 1)).length = (susL W.l k).length + 1 ∧ intCells (susL W.l (k + 1)) = intCells (susL W.l k) ++ [.int .i64 (k : Int)] from by rw [HT.out]; simp [intCells])
        generalize (susL W.l k).length = D at *
        generalize intCells (susL W.l k) = X at *
        go_wp2_with (at_builtin; refine wpList_app el3 rfl _ _ rfl w1.heap.size _ D _ rfl (hrow.alloc _) ⟨wr.heap.size, 0, none⟩ 1 1 [.int .i64 (k : Int)] rfl (by decide) rfl (new_cells wr [.int .i64 (k : Int)] 3) (by simp [Value.oneCell']) (by omega) (by simp; omega) ?_; intro g' cap' w' hr' hgr')
        go_roundg g1
        case measure => omega
        case rel =>
          refine ⟨k + 1, by omega, by first | rfl | simp, ?_, ?_⟩
          · rw [HT1.out.1, HT1.out.2]; exact hr'
          · exact grown_below ((HB.out).alloc hz _) (HRow.out.alloc _) hgr' (Nat.le_refl _) (by simp; omega)
      | false =>
        rw [hsu] at k1
        have HT := hid (show susL W.l (k + 1) = susL W.l k from by show susL W.l k ++ _ = _; rw [hx]; simp only [hsu]; simp)
        clear hx hI hbw hsu hrow
        go_wp2_with fail
        go_roundg g1
        case measure => omega
        case rel => exact ⟨k + 1, by omega, by first | rfl | simp, by rw [HT.out]; exact HRow.out, HB.out⟩
end Go.Proofs.YtmpgfpmkmgebdaaGreatDoor.W
/- The program's world: Clear, Crash, Strike. -/
namespace Go.Proofs.YtmpgfpmkmgebdaaGreatDoor.W
open Go.RowKit Go.Maps
variable {w w' w1 w2 : World} {S : Nat → Prop} {b g : Nat} {W W' : Wd}
theorem kflat_set (l : List Kp) : ∀ (j : Nat) (x : Kp) (v : Bool), l[j]? = some x → (l.set j { x with sus := v }).flatMap kcells = (l.flatMap kcells).set (j * 2 + 1) (.bool v) := by
  induction l with
  | nil => intro j x v h; simp at h
  | cons p r ih =>
    intro j x v h
    cases j with
    | zero => simp at h; subst h; rfl
    | succ j =>
      rw [List.set_cons_succ, List.flatMap_cons, List.flatMap_cons, ih j x v (by simpa using h)]
      have : (kcells p).length = 2 := rfl
      rw [List.set_append_right _ _ (by omega), this, show (j + 1) * 2 + 1 - 2 = j * 2 + 1 by omega]
/-- whether a store is suspect is written -/
theorem AfterW.sus (h : IsWd w S b g W) {j : Nat} {x : Kp} (hj : W.l[j]? = some x) (v : Bool) : AfterW w (w.setCell ⟨g, j * 2 + 1, none⟩ (.bool v)) S b g { W with l := W.l.set j { x with sus := v } } := by
  obtain ⟨cap, F, h1, h2, h3, h4, h5, h6, h7⟩ := h
  have hl : j < W.l.length := (List.getElem?_eq_some_iff.1 hj).1
  have ho : Only (fun k => k = g) w (w.setCell ⟨g, j * 2 + 1, none⟩ (.bool v)) := (Only.refl (fun k => k = g) w).set (p := ⟨g, j * 2 + 1, none⟩) (.inl rfl) _
  have hbg : b ≠ g := fun e => by
    have := row_ne h2 h1 (by decide) g rfl
    exact this e.symm
  refine ⟨S, ⟨cap, F, ?_, ?_, fun k y hk => ?_, by simpa using h4, h5, h6, fun k hk => Nat.lt_of_lt_of_le (h7 k hk) ho.size⟩, fun _ h => .inl h, ho.mono fun k hk => by subst hk; exact h6⟩
  · have := ho.has h1 hbg
    unfold wdcells at this ⊢
    simpa using this
  · simp only [List.length_set]
    rw [kflat_set W.l j x v hj]
    exact (h2.stored (j * 2 + 1) (.bool v)).1
  · by_cases e : k = j
    · subst e
      simp only [List.getElem?_set_self hl, Option.some.injEq] at hk
      subst hk
      obtain ⟨k1, k2, k3, k4⟩ := h3 k x hj
      exact ⟨k1.only ho fun i hi e => k4 (e ▸ hi), k2, k3, k4⟩
    · simp only [List.getElem?_set_ne (Ne.symm e)] at hk
      obtain ⟨k1, k2, k3, k4⟩ := h3 k y hk
      exact ⟨k1.only ho fun i hi e => k4 (e ▸ hi), k2, k3, k4⟩
theorem List.set_getElem?_self' {α : Type} : ∀ {l : List α} {k : Nat} {x : α}, l[k]? = some x → l.set k x = l
  | [], _, _, h => by simp at h
  | a :: r, 0, x, h => by simp at h; subst h; rfl
  | a :: r, k + 1, x, h => by rw [List.set_cons_succ, List.set_getElem?_self' (by simpa using h)]
def soundK (x : Kp) : Bool := !x.st.down && x.st.refuse.isNone
def clearK (x : Kp) : Kp := if soundK x then { x with sus := false } else x
/-- the first k are cleared -/
def clearL (l : List Kp) (k : Nat) : List Kp := (l.take k).map clearK ++ l.drop k
theorem clearL_get {l : List Kp} {k : Nat} {x : Kp} (h : l[k]? = some x) : (clearL l k)[k]? = some x := by
  have hl : k < l.length := (List.getElem?_eq_some_iff.1 h).1
  unfold clearL
  rw [List.getElem?_append_right (by simp; omega), List.length_map, List.length_take, List.getElem?_drop, Nat.min_eq_left (by omega), show k + (k - k) = k by omega]
  exact h
theorem clearL_len (l : List Kp) (k : Nat) : (clearL l k).length = l.length := by
  unfold clearL
  simp
  omega
theorem clearL_succ {l : List Kp} {k : Nat} {x : Kp} (h : l[k]? = some x) : clearL l (k + 1) = (clearL l k).set k (clearK x) := by
  have hl : k < l.length := (List.getElem?_eq_some_iff.1 h).1
  unfold clearL
  rw [List.take_add_one, h, List.map_append, List.set_append_right _ _ (by simp; omega), List.length_map, List.length_take, Nat.min_eq_left (by omega), Nat.sub_self, List.append_assoc]
  congr 1
  have e : l.drop k = x :: l.drop (k + 1) := by
    rw [List.drop_eq_getElem_cons hl]
    congr 1
    exact (List.getElem?_eq_some_iff.1 h).2
  rw [e]; rfl
def clearW (W : Wd) : Wd := { W with l := W.l.map clearK }
theorem clearL_all (l : List Kp) : clearL l l.length = l.map clearK := by unfold clearL; simp
set_option maxHeartbeats 2000000 in
set_option maxRecDepth 20000 in
theorem wclear_any (h : IsWd w S b g W) (hn : W.l.length ≤ 1000) : Calls Tryz.prog 14 #[ptr b] w fun e w' => e = .returned (.tuple #[]) ∧ AfterW w w' S b g (clearW W) := by
  have HN := n_any h
  have HH := hid h
  clear h
  unfold ptr at *
  generalize hL : W.l.length = L at *
  have HL := hid hL
  clear hL
  go_enter Tryz.func14, Tryz.ntmps14
  go_wp2_with fail
  refine HN.mono ?_
  clear HN
  rintro x w1 ⟨rfl, rfl⟩
  go_wp2_with fail
  go_loopg [5] L (fun gk s5 wx => ∃ k : Nat, k + gk = L ∧ s5 = .int .i64 (k : Int) ∧ AfterW w1 wx S b g { W with l := clearL W.l k })
  case atStart => exact ⟨0, by omega, rfl, AfterW.refl HH.out⟩
  case round =>
    obtain ⟨k, hk, rfl, hA⟩ := hrel
    have HA := hid hA
    cases gk with
    | zero =>
      have q1 : ¬ ((k : Int) < (L : Int)) := by omega
      have HE := hid (show ({ W with l := clearL W.l k } : Wd) = clearW W from by
        unfold clearW
        rw [show k = W.l.length by rw [HL.out]; omega, clearL_all])
      clear hA
      go_wp2_with fail
      go_end0
      refine ⟨rfl, ?_⟩
      have := HA.out
      rwa [HE.out] at this
    | succ g1 =>
      have q1 : (k : Int) < (L : Int) := by omega
      obtain ⟨x, hx⟩ : ∃ x, W.l[k]? = some x := ⟨_, List.getElem?_eq_getElem (by rw [HL.out]; omega)⟩
      have hx2 : (clearL W.l k)[k]? = some x := clearL_get hx
      have HT := hid (clearL_succ hx)
      obtain ⟨S2, i2, s2, o2⟩ := hA
      obtain ⟨cap, ⟨c0, _, _, _, _⟩, _, _⟩ := i2.cells
      have c0' : wr.cell? ⟨b, 0, none⟩ = some (.slice (some ⟨g, 0, none⟩) L cap) := by rw [c0]; simp only; rw [clearL_len, HL.out]
      obtain ⟨k0, k1, kf⟩ := i2.kept hx2
      have f1 := kf (k * 2 + 1)
      obtain ⟨T, t1, _, _⟩ := i2.call hx2
      have HSO := sound_any t1
      have HSU := hid (AfterW.trans s2 o2 (AfterW.sus i2 hx2 false))
      unfold ptr at *
      cases hso : soundK x with
      | true =>
        have e1 : (!x.st.down && x.st.refuse.isNone) = true := hso
        rw [e1] at HSO
        have HT2 := hid (show clearK x = { x with sus := false } from by unfold clearK; rw [hso]; rfl)
        clear e1 hso hx hx2 i2 s2 o2 c0 t1
        go_wp2_with fail
        refine HSO.mono ?_
        rintro z w3 ⟨rfl, rfl⟩
        clear HSO
        go_wp2_with fail
        go_roundg g1
        case measure => omega
        case rel => exact ⟨k + 1, by omega, by first | rfl | simp, by rw [HT.out, HT2.out]; exact HSU.out⟩
      | false =>
        have e1 : (!x.st.down && x.st.refuse.isNone) = false := hso
        rw [e1] at HSO
        have HT2 := hid (show (clearL W.l k).set k (clearK x) = clearL W.l k from by
          unfold clearK; rw [hso]
          simp only [Bool.false_eq_true, if_false]
          exact List.set_getElem?_self' hx2)
        clear e1 hso hx hx2 i2 s2 o2 c0 t1 HSU
        go_wp2_with fail
        refine HSO.mono ?_
        rintro z w3 ⟨rfl, rfl⟩
        clear HSO
        go_wp2_with fail
        go_roundg g1
        case measure => omega
        case rel => exact ⟨k + 1, by omega, by first | rfl | simp, by rw [HT.out, HT2.out]; exact HA.out⟩
end Go.Proofs.YtmpgfpmkmgebdaaGreatDoor.W
/- The program's world: Crash, Strike. -/
namespace Go.Proofs.YtmpgfpmkmgebdaaGreatDoor.W
open Go.RowKit Go.Maps
variable {w w' w1 w2 : World} {S : Nat → Prop} {b g : Nat} {W W' : Wd}
/-- what survives of a store, as it is read -/
structure Sv where
  kv : Value
  ks : List Int
def RdS (w : World) (v : Value) (l : List Sv) : Prop := ((∃ A c, v = .slice A 0 c ∧ l = []) ∨ ∃ g o cap, 0 < l.length ∧ v = .slice (some ⟨g, o, none⟩) l.length cap ∧ g < w.heap.size ∧ ∀ (j : Nat) (x : Sv), l[j]? = some x → w.cell? ⟨g, o + j, none⟩ = some x.kv) ∧ ∀ x ∈ l, RdI w x.kv x.ks ∧ x.ks.length ≤ 140737488355328
theorem RdS.form {v : Value} {l : List Sv} (h : RdS w v l) : ∃ a c, v = .slice a l.length c := by
  rcases h.1 with ⟨A, c, rfl, rfl⟩ | ⟨g, o, cap, _, rfl, _⟩
  · exact ⟨A, c, rfl⟩
  · exact ⟨_, _, rfl⟩
theorem RdI.lt {v : Value} {ks : List Int} (h : RdI w v ks) {g o n c : Nat} (e : v = .slice (some ⟨g, o, none⟩) n c) (hn : 0 < n) : g < w.heap.size := by
  rcases h with ⟨A, c', e', _⟩ | ⟨g', o', cap, _, e', hg, _⟩
  · rw [e] at e'; cases e'; omega
  · rw [e] at e'; cases e'; exact hg
/-- the first k of them are turned -/
def preL (f : Nat → Kp → Kp) (l : List Kp) (k : Nat) : List Kp := l.mapIdx fun i x => if i < k then f i x else x
theorem preL_get {f : Nat → Kp → Kp} {l : List Kp} {k : Nat} {x : Kp} (h : l[k]? = some x) : (preL f l k)[k]? = some x := by
  unfold preL
  rw [List.getElem?_mapIdx, h]
  simp
theorem preL_len (f : Nat → Kp → Kp) (l : List Kp) (k : Nat) : (preL f l k).length = l.length := by unfold preL; simp
theorem preL_zero (f : Nat → Kp → Kp) (l : List Kp) : preL f l 0 = l := by
  apply List.ext_getElem?
  intro i
  unfold preL
  rw [List.getElem?_mapIdx]
  cases l[i]? <;> simp
theorem preL_succ {f : Nat → Kp → Kp} {l : List Kp} {k : Nat} {x : Kp} (h : l[k]? = some x) : preL f l (k + 1) = (preL f l k).set k (f k x) := by
  have hl : k < l.length := (List.getElem?_eq_some_iff.1 h).1
  apply List.ext_getElem?
  intro i
  by_cases e : i = k
  · subst e
    rw [List.getElem?_set_self (by rw [preL_len]; exact hl)]
    unfold preL
    rw [List.getElem?_mapIdx, h]
    simp
  · rw [List.getElem?_set_ne (Ne.symm e)]
    unfold preL
    rw [List.getElem?_mapIdx, List.getElem?_mapIdx]
    cases l[i]? with
    | none => rfl
    | some y =>
      simp only [Option.map_some, Option.some.injEq]
      by_cases h1 : i < k
      · rw [if_pos h1, if_pos (by omega)]
      · rw [if_neg h1, if_neg (by omega)]
theorem preL_all (f : Nat → Kp → Kp) (l : List Kp) : preL f l l.length = l.mapIdx f := by
  apply List.ext_getElem?
  intro i
  unfold preL
  rw [List.getElem?_mapIdx, List.getElem?_mapIdx]
  cases h : l[i]? with
  | none => rfl
  | some y =>
    have hl : i < l.length := (List.getElem?_eq_some_iff.1 h).1
    simp [hl]
def keepOf (sv : List Sv) (i : Nat) : List Int := (sv[i]?.map (·.ks)).getD []
def crashK (sv : List Sv) (i : Nat) (x : Kp) : Kp := { x with st := crashS x.st (keepOf sv i) }
def crashW (W : Wd) (sv : List Sv) : Wd := { W with l := W.l.mapIdx (crashK sv), dark := false, cut := false, left := 0 }
set_option maxHeartbeats 4000000 in
set_option maxRecDepth 20000 in
theorem wcrash_any {w0 : World} (h : IsWd w S b g W) (hn : W.l.length ≤ 1000) {N : Nat} (hF : ∀ x ∈ W.l, Fit N x.st ∧ (x.st.writes ≠ [] → x.st.live = true)) (hN : N ≤ 400000) (hb0 : Below w0.heap.size w0 w) (hS : ∀ i, S i → w0.heap.size ≤ i) (lv : Value) (sv : List Sv) (hlv : RdS w0 lv sv) (hsl : sv.length ≤ 9223372036854775807) : Calls Tryz.prog 10 #[ptr b, lv] w fun e w' => e = .returned (er 0) ∧ AfterW w w' S b g (crashW W sv) := by
  obtain ⟨la, lc, rfl⟩ := hlv.form
  have HLV := hid hlv
  obtain ⟨cap, ⟨c0, c1, c2, c3, c4⟩, hfr, _⟩ := h.cells
  have HH := hid h
  have HB0 := hid hb0
  have HS := hid hS
  have HF := hid hF
  clear h hlv hb0 hS hF c1 c2 c3 c4
  unfold ptr er at *
  generalize hL : W.l.length = L at *
  have HL := hid hL
  clear hL
  go_enter Tryz.func10, Tryz.ntmps10
  go_wp2_with fail
  clear c0
  go_loopg [14] L (fun gk s14 wx => ∃ k : Nat, k + gk = L ∧ s14 = .int .i64 (k : Int) ∧ AfterW w wx S b g { W with l := preL (crashK sv) W.l k })
  case atStart => exact ⟨0, by omega, rfl, by rw [preL_zero]; exact AfterW.refl HH.out⟩
  case round =>
    obtain ⟨k, hk, rfl, hA⟩ := hrel
    have HA := hid hA
    cases gk with
    | zero =>
      have q1 : ¬ ((k : Int) < (L : Int)) := by omega
      have HE := hid (show preL (crashK sv) W.l k = W.l.mapIdx (crashK sv) from by rw [show k = W.l.length by rw [HL.out]; omega, preL_all])
      obtain ⟨S2, i2, s2, o2⟩ := hA
      have a1 := AfterW.turn (W' := { W with l := preL (crashK sv) W.l k, dark := false }) i2 2 (.bool false) rfl fun _ => rfl
      have a2 := a1.then fun S' h' => AfterW.turn (W' := { W with l := preL (crashK sv) W.l k, dark := false, cut := false }) h' 3 (.bool false) rfl fun _ => rfl
      have a3 := a2.then fun S' h' => AfterW.turn (W' := { W with l := preL (crashK sv) W.l k, dark := false, cut := false, left := 0 }) h' 4 (.int .i64 0) rfl fun _ => rfl
      have HA3 := hid (AfterW.trans s2 o2 a3)
      obtain ⟨cap', F, h1, _⟩ := i2
      have f2 := h1.frozen 2
      have k2 : wr.cell? ⟨b, 2, none⟩ = some (.bool W.dark) := h1.cell 2
      have h2 := h1.set 2 (.bool false)
      have f3 := h2.frozen 3
      have k3 : (wr.setCell ⟨b, 2, none⟩ (.bool false)).cell? ⟨b, 3, none⟩ = some (.bool W.cut) := h2.cell 3
      have h3 := h2.set 3 (.bool false)
      have f4 := h3.frozen 4
      have k4 : ((wr.setCell ⟨b, 2, none⟩ (.bool false)).setCell ⟨b, 3, none⟩ (.bool false)).cell? ⟨b, 4, none⟩ = some (.int .i64 (W.left : Int)) := h3.cell 4
      clear h1 h2 h3 a1 a2 a3 s2 o2 HA
      go_wp2_with fail
      go_ret
      refine ⟨rfl, ?_⟩
      have := HA3.out
      rw [HE.out] at this
      exact this
    | succ g1 =>
      have q1 : (k : Int) < (L : Int) := by omega
      obtain ⟨x, hx⟩ : ∃ x, W.l[k]? = some x := ⟨_, List.getElem?_eq_getElem (by rw [HL.out]; omega)⟩
      have hx2 := preL_get (f := crashK sv) hx
      have HT := hid (preL_succ (f := crashK sv) hx)
      obtain ⟨S2, i2, s2, o2⟩ := hA
      obtain ⟨cap', ⟨c0, _, _, _, _⟩, _, _⟩ := i2.cells
      have c0' : wr.cell? ⟨b, 0, none⟩ = some (.slice (some ⟨g, 0, none⟩) L cap') := by rw [c0]; simp only; rw [preL_len, HL.out]
      obtain ⟨k0, _, _⟩ := i2.kept hx2
      obtain ⟨T, t1, t2, t3⟩ := i2.call hx2
      have hS2 : ∀ i, S2 i → w0.heap.size ≤ i := fun i hi => (s2 i hi).elim (HS.out i) (fun h => Nat.le_trans HB0.out.size h)
      have hb0r : Below w0.heap.size w0 wr := HB0.out.trans (o2.below HB0.out.size HS.out)
      have HCR := hid (fun (kv : Value) (ks : List Int) (hk : RdI w0 kv ks) (hkl : ks.length ≤ 140737488355328) => crash_any t1 (HF.out x (List.mem_of_getElem? hx)).1 hN (HF.out x (List.mem_of_getElem? hx)).2 kv ks (hk.below hb0r) (by omega) (fun g' o' n' c' e1 e2 hT => by
        have := RdI.lt hk e1 e2
        have := hS2 g' (t2 g' hT)
        omega))
      have HNX := hid (show ∀ w', After wr w' T x.blk (crashS x.st (keepOf sv k)) → AfterW w w' S b g { W with l := preL (crashK sv) W.l (k + 1) } from fun w' ha => by
        rw [HT.out]
        exact AfterW.trans s2 o2 (t3 _ _ ha))
      unfold ptr at *
      by_cases hks : k < sv.length
      · obtain ⟨y, hy⟩ : ∃ y, sv[k]? = some y := ⟨_, List.getElem?_eq_getElem hks⟩
        have q2 : (k : Int) < (sv.length : Int) := by omega
        have HCC := HCR.out y.kv y.ks (HLV.out.2 y (List.mem_of_getElem? hy)).1 (HLV.out.2 y (List.mem_of_getElem? hy)).2
        have HKE := hid (show keepOf sv k = y.ks from by unfold keepOf; rw [hy]; rfl)
        rw [← HKE.out] at HCC
        unfold er at HCC
        rcases HLV.out.1 with ⟨_, _, _, e0⟩ | ⟨gs, os, caps, _, es, hgs, hcs⟩
        · rw [e0] at hks; simp at hks
        cases es
        have l0 : wr.cell? ⟨gs, os + k, none⟩ = some y.kv := by rw [hb0r.cell (p := ⟨gs, os + k, none⟩) hgs]; exact hcs k y hy
        clear hcs hy hx hx2 i2 s2 o2 c0 t1 t2 t3 hS2 hb0r HCR hks
        go_wp2_with fail
        refine HCC.mono ?_
        clear HCC
        rintro z w3 ⟨rfl, ha⟩
        have HA3 := hid (HNX.out _ ha)
        clear ha HNX
        go_wp2_with fail
        go_roundg g1
        case measure => omega
        case rel => exact ⟨k + 1, by omega, by first | rfl | simp, HA3.out⟩
      · have q2 : ¬ ((k : Int) < (sv.length : Int)) := by omega
        have HCC := HCR.out (.slice none 0 0) [] (.inl ⟨_, _, rfl, rfl⟩) (Nat.zero_le _)
        have HKE := hid (show keepOf sv k = [] from by unfold keepOf; rw [List.getElem?_eq_none (by omega)]; rfl)
        rw [← HKE.out] at HCC
        unfold er at HCC
        clear hx hx2 i2 s2 o2 c0 t1 t2 t3 hS2 hb0r HCR hks
        go_wp2_with fail
        refine HCC.mono ?_
        clear HCC
        rintro z w3 ⟨rfl, ha⟩
        have HA3 := hid (HNX.out _ ha)
        clear ha HNX
        go_wp2_with fail
        go_roundg g1
        case measure => omega
        case rel => exact ⟨k + 1, by omega, by first | rfl | simp, HA3.out⟩
def skF (g j blk _B : Nat) (k t n a c : Int) (i : Nat) (v : Value) (_ : World) : Prop := match i with
  | 15 => v = .pointer (some ⟨g, j * 2, none⟩) | 16 => v = .pointer (some ⟨g, j * 2, none⟩) | 17 => v = .pointer (some ⟨g, j * 2, none⟩)
  | 18 => v = .pointer (some ⟨blk, 0, none⟩) | 19 => v = .agg #[.int .u8 k, .int .i64 t, .int .i64 n, .int .i64 a, .int .i64 c]
  | _ => True
def strikeW (W : Wd) (k t n a c : Int) : Int × Wd := if 0 ≤ t ∧ t < (W.l.length : Int) then (match W.l[t.toNat]? with
  | some x => ((strikeS x.st k n a c).1, { W with l := W.l.set t.toNat { x with st := (strikeS x.st k n a c).2, sus := x.sus || (decide ((strikeS x.st k n a c).1 = 0) && (decide (k ≠ 5) && decide (k ≠ 7))) } })
  | none => (1, W)) else (1, W)
set_option maxHeartbeats 4000000 in
set_option maxRecDepth 20000 in
theorem wstrike_any (h : IsWd w S b g W) {N : Nat} (hF : ∀ x ∈ W.l, Fit N x.st) (hN : N ≤ 1000000) (k t n a c : Int) (hk0 : 0 ≤ k) (hk : k < 256) (hn : n < 9223372036854775808) (ha : a < 9223372036854775808) : Calls Tryz.prog 12 #[ptr b, fv k t n a c] w fun e w' => e = .returned (er (strikeW W k t n a c).1) ∧ AfterW w w' S b g (strikeW W k t n a c).2 := by
  have HB := hid (boxed w (.cells #[.int .u8 k, .int .i64 t, .int .i64 n, .int .i64 a, .int .i64 c] 43))
  have HX := hid (Has.new w w.heap.size #[.int .u8 k, .int .i64 t, .int .i64 n, .int .i64 a, .int .i64 c] 43 rfl)
  have HH := hid (h.below HB.out)
  have HNS : Hid (¬ S w.heap.size) := hid fun hS => by have := h.bound _ hS; omega
  obtain ⟨wa, hwa⟩ : ∃ wa, wa = w.alloc (.cells #[.int .u8 k, .int .i64 t, .int .i64 n, .int .i64 a, .int .i64 c] 43) := ⟨_, rfl⟩
  rw [← hwa] at HB HX HH
  have b0 : wa.cell? ⟨w.heap.size, 0, none⟩ = some (.int .u8 k) := HX.out.cell 0
  have b1 : wa.cell? ⟨w.heap.size, 1, none⟩ = some (.int .i64 t) := HX.out.cell 1
  have b2 : wa.cell? ⟨w.heap.size, 2, none⟩ = some (.int .i64 n) := HX.out.cell 2
  have b3 : wa.cell? ⟨w.heap.size, 3, none⟩ = some (.int .i64 a) := HX.out.cell 3
  have b4 : wa.cell? ⟨w.heap.size, 4, none⟩ = some (.int .i64 c) := HX.out.cell 4
  have HAT := at_any HH.out t
  unfold placeV at HAT
  unfold strikeW
  by_cases h0 : 0 ≤ t ∧ t < (W.l.length : Int)
  · rw [if_pos h0] at HAT
    rw [if_pos h0]
    obtain ⟨x, hx⟩ : ∃ x, W.l[t.toNat]? = some x := ⟨_, List.getElem?_eq_getElem (by omega)⟩
    rw [hx]
    simp only
    generalize t.toNat = j at *
    obtain ⟨k0, _, _⟩ := HH.out.kept hx
    obtain ⟨T, t1, _, t3⟩ := (HH.out.below (Below.refl _ wa).drew).call hx
    have HST := strike_any t1 (hF x (List.mem_of_getElem? hx)) hN k t n a c hk0 hk hn ha
    have HFX := hid (show ∀ w', After wa.drew w' T x.blk (strikeS x.st k n a c).2 → AfterW wa w' S b g { W with l := W.l.set j { x with st := (strikeS x.st k n a c).2 } } from fun w' hA => AfterW.front (Below.refl _ _).drew (t3 _ _ hA))
    have hjl : j < W.l.length := (List.getElem?_eq_some_iff.1 hx).1
    have HJ := hid (show ∀ (y : Kp), (W.l.set j y)[j]? = some y from fun y => List.getElem?_set_self hjl)
    have HJ2 := hid (show ∀ (y z : Kp), (W.l.set j y).set j z = W.l.set j z from fun y z => List.set_set ..)
    clear h hF hx t1 t3 h0 hjl
    unfold er fv
    unfold ptr fv er at *
    generalize hS : strikeS x.st k n a c = R at *
    clear hS
    go_enter Tryz.func12, Tryz.ntmps12
    go_wp2_with fail
    rw [← hwa]
    refine HAT.mono ?_
    clear HAT hwa
    rintro z w1 ⟨rfl, rfl⟩
    go_wp2_with fail
    refine Tl.wp_mix_lit (by kernel_rfl) 5 [15, 16, 17, 18, 19] 37 rfl (by kernel_rfl) (AtW w1.drew) (skF g j x.blk w.heap.size k t n a c) rfl
      ⟨fun a' W' hC hF => ?_, fun a' W' hC hF => ?_, fun a' W' hC hF => ?_, fun a' W' hC hF => ?_, fun a' W' hC hF => ?_, trivial⟩ ?_
    · exact Tl.sm_v 15 _ rfl (Tl.wanted_none rfl) hC rfl (rn_move rfl ((hF 5 (by decide +kernel)).2 (by decide)))
    · exact Tl.sm_v 16 _ rfl (Tl.wanted_none rfl) hC rfl (rn_nilCheck rfl ((hF 15 (by decide +kernel)).1 (by decide)))
    · exact Tl.sm_v 17 _ rfl (Tl.wanted_none rfl) hC rfl (rn_f66_0 rfl ((hF 16 (by decide +kernel)).1 (by decide)))
    · exact Tl.sm_v 18 _ rfl (Tl.wanted_none rfl) hC rfl (rn_load63 rfl ((hF 17 (by decide +kernel)).1 (by decide)) (by rw [show W' = _ from hC]; exact k0))
    · exact Tl.sm_v 19 _ rfl (Tl.wanted_none rfl) hC rfl (rn_load32 rfl ((hF 3 (by decide +kernel)).2 (by decide)) (by rw [show W' = _ from hC]; exact b0) (by rw [show W' = _ from hC]; exact b1) (by rw [show W' = _ from hC]; exact b2) (by rw [show W' = _ from hC]; exact b3) (by rw [show W' = _ from hC]; exact b4))
    intro v wB hw hv
    obtain rfl : wB = _ := hw
    have v18 : v 18 = .pointer (some ⟨x.blk, 0, none⟩) := hv 18 (by decide)
    have v19 : v 19 = .agg #[.int .u8 k, .int .i64 t, .int .i64 n, .int .i64 a, .int .i64 c] := hv 19 (by decide)
    clear hv k0 b0 b1 b2 b3 b4
    simp only [Tl.fill, List.drop_succ_cons, List.drop_zero]
    simp only [Act.put, List.setIfInBounds_toArray, List.set_cons_succ, List.set_cons_zero, v18, v19]
    clear v18 v19
    go_wp2_with fail
    refine HST.mono ?_
    clear HST
    rintro z w2 ⟨rfl, hA⟩
    have HA2 := hid (HFX.out _ hA)
    have b0 : w2.cell? ⟨w.heap.size, 0, none⟩ = some (.int .u8 k) := (HA2.out.has HX.out HNS.out).cell 0
    clear hA HFX
    have HNO := hid (show (decide (R.1 = 0) && (decide (k ≠ 5) && decide (k ≠ 7))) = false → AfterW w w2 S b g { W with l := W.l.set j { x with st := R.2, sus := x.sus || (decide (R.1 = 0) && (decide (k ≠ 5) && decide (k ≠ 7))) } } from fun e => by
      rw [e, Bool.or_false]
      exact AfterW.front HB.out HA2.out)
    by_cases hz : R.1 = 0
    · have q0 : (R.1 == 0) = true := by rw [hz]; rfl
      by_cases h5 : k = 5
      · have q5 : (k != 5) = false := by rw [h5]; rfl
        have HFI := hid (HNO.out (by simp [h5]))
        clear hz h5 HNO HA2
        go_wp2_with fail
        go_ret
        exact ⟨rfl, HFI.out⟩
      · have q5 : (k != 5) = true := bne_iff_ne.2 h5
        by_cases h7 : k = 7
        · have q7 : (k != 7) = false := by rw [h7]; rfl
          have HFI := hid (HNO.out (by simp [h7]))
          clear hz h5 h7 HNO HA2
          go_wp2_with fail
          go_ret
          exact ⟨rfl, HFI.out⟩
        · have q7 : (k != 7) = true := bne_iff_ne.2 h7
          obtain ⟨S3, i3, s3, o3⟩ := HA2.out
          obtain ⟨_, k1, kf⟩ := i3.kept (HJ.out _)
          have f1 := kf (j * 2 + 1)
          have HFI := hid (show AfterW w (w2.setCell ⟨g, j * 2 + 1, none⟩ (.bool true)) S b g { W with l := W.l.set j { x with st := R.2, sus := x.sus || (decide (R.1 = 0) && (decide (k ≠ 5) && decide (k ≠ 7))) } } from by
            have := AfterW.front HB.out (AfterW.trans s3 o3 (AfterW.sus i3 (HJ.out _) true))
            simp only [HJ2.out] at this
            rw [show (x.sus || (decide (R.1 = 0) && (decide (k ≠ 5) && decide (k ≠ 7)))) = true from by simp [hz, h5, h7]]
            exact this)
          clear hz h5 h7 HNO HA2 i3 s3 o3 kf
          go_wp2_with fail
          go_ret
          exact ⟨rfl, HFI.out⟩
    · have q0 : (R.1 == 0) = false := beq_eq_false_iff_ne.2 hz
      have HFI := hid (HNO.out (by simp [hz]))
      clear hz HNO HA2
      go_wp2_with fail
      go_ret
      exact ⟨rfl, HFI.out⟩
  · rw [if_neg h0] at HAT
    rw [if_neg h0]
    clear hF h0
    unfold er fv
    unfold ptr at *
    have HR := hid (AfterW.front HB.out (AfterW.refl HH.out))
    clear h
    go_enter Tryz.func12, Tryz.ntmps12
    go_wp2_with fail
    rw [← hwa]
    refine HAT.mono ?_
    clear HAT hwa
    rintro z w1 ⟨rfl, rfl⟩
    go_wp2_with fail
    go_ret
    exact ⟨rfl, HR.out⟩
end Go.Proofs.YtmpgfpmkmgebdaaGreatDoor.W
