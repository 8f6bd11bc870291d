/- Quorum: what faults forge: the document's New and Forged; the world's other calls. Out of health's seat. -/
import Derived.Test.YtmpgfpmkmgebdaaGreatDoorSX
import Derived.Test.YtmpgfpmkmgebdaaGreatDoorP22
import Derived.Test.YtmpgfpmkmgebdaaGreatDoorQ9
namespace Go.Proofs.YtmpgfpmkmgebdaaGreatDoor
open Go.RowKit Go.Maps
open W
set_option linter.unusedVariables false
variable {w0 w w' : World} {b : Nat} {V V' : Wd} {T : Nat → Prop}
theorem WT.dark (h : WT w0 w b V T) : Calls Tryz.prog 9 #[ptr b] w fun e w' => e = .returned (.bool V.dark) ∧ w' = w := by
  obtain ⟨S, g, h1, _⟩ := h
  exact dark_any h1
theorem WT.clear (h : WT w0 w b V T) (hn : V.l.length ≤ 1000) : Calls Tryz.prog 14 #[ptr b] w fun e w' => e = .returned (.tuple #[]) ∧ WT w0 w' b (clearW V) T ∧ Kpt T w w' := by
  obtain ⟨S, g, h1, _, k⟩ := h.go
  exact (wclear_any h1 hn).mono fun _ _ ⟨e1, e2⟩ => ⟨e1, k _ _ e2⟩
theorem WT.sus (h : WT w0 w b V T) (hn : V.l.length ≤ 1000) : Calls Tryz.prog 33 #[ptr b] w fun e w' => ∃ v, e = .returned v ∧ w'.ownsRow w.heap.size 3 1 v (susL V.l V.l.length).length (intCells (susL V.l V.l.length)) ∧ Below w.heap.size w w' := by
  obtain ⟨S, g, h1, _⟩ := h
  exact wsus_any h1 hn
theorem rn_ix55 {ev : Operand → Value} {o : Oper} {w : World} {x y : Operand} {g n c i : Nat} (ho : o.op = .indexAddr 78 x y) (hx : ev x = .slice (some ⟨g, 0, none⟩) n c) (hy : ev y = .int .i64 (i : Int)) (hi : i < n) : (execOp ev o).run Tryz.prog w = .ok (.value (.pointer (some ⟨g, i * 2, none⟩))) w := by
  have q : (i : Int) < (n : Int) := by omega
  simp [execOp, ho, hx, hy, go_sem, q]
theorem rn_eql64 {ev : Operand → Value} {o : Oper} {w : World} {x y : Operand} {a c d f : ByteArray} (ho : o.op = .binOp .eql 131 x y 131) (hx : ev x = .agg #[.string a, .string c]) (hy : ev y = .agg #[.string d, .string f]) : (execOp ev o).run Tryz.prog w = .ok (.value (.bool (decide ((a, c) = (d, f))))) w := by
  have : (binOp .eql 131 (.agg #[.string a, .string c]) (.agg #[.string d, .string f])).run Tryz.prog w = .ok (.bool (decide ((a, c) = (d, f)))) w := by
    by_cases h1 : a = d
    · subst h1
      by_cases h2 : c = f
      · subst h2; simp [go_sem]
      · simp [go_sem, tl_eq, h2]
    · simp [go_sem, tl_eq, h1]
  have hg : ∀ a c : Array Value, (eqGuard .eql 131 x y (.agg a) (.agg c)).run Tryz.prog w = .ok () w := fun a c => run_eqGuard_agg _ _ _ _ _ _ _ (by kernel_rfl)
  simp [execOp, ho, hx, hy, this, hg]
theorem obj_at {w : World} {B : Nat} {v : Value} {os : List Ob} (h : w.ownsRow B 131 2 v os.length (objCells os)) {i : Nat} (hi : i < os.length) : ∃ g c, v = .slice (some ⟨g, 0, none⟩) os.length c ∧ w.cell? ⟨g, i * 2, none⟩ = some (.string (os.getD i (⟨#[]⟩, ⟨#[]⟩)).1) ∧ w.cell? ⟨g, i * 2 + 1, none⟩ = some (.string (os.getD i (⟨#[]⟩, ⟨#[]⟩)).2) := by
  rcases row_form h with ⟨_, h0, _⟩ | ⟨g, cap, rfl, _, _, _, _, h5⟩
  · omega
  · have hg : os.getD i (⟨#[]⟩, ⟨#[]⟩) = os[i] := by rw [List.getD_eq_getElem?_getD, List.getElem?_eq_getElem hi]; rfl
    rw [hg]
    have hc : ∀ (l : List Ob) (k : Nat) (p : Ob), l[k]? = some p → (objCells l)[k * 2]? = some (.string p.1) ∧ (objCells l)[k * 2 + 1]? = some (.string p.2) := by
      intro l
      induction l with
      | nil => intro k p hp; simp at hp
      | cons q r ih =>
        intro k p hp
        cases k with
        | zero => simp at hp; subst hp; exact ⟨rfl, rfl⟩
        | succ k =>
          have e : objCells (q :: r) = .string q.1 :: .string q.2 :: objCells r := rfl
          rw [e, show (k + 1) * 2 = k * 2 + 1 + 1 by omega]
          exact ih k p (by simpa using hp)
    have := hc os i os[i] (List.getElem?_eq_getElem hi)
    exact ⟨g, cap, rfl, h5 _ _ this.1, h5 _ _ this.2⟩
theorem WT.objs (h : WT w0 w b V T) (hs : ∀ x ∈ V.l, x.st.seen.length ≤ 1000000) (i : Int) : Calls Tryz.prog 32 #[ptr b, .int .i64 i] w fun e w' => ∃ v, e = .returned v ∧ w'.ownsRow w.heap.size 131 2 v (objsW V i).length (objCells (objsW V i)) ∧ Below w.heap.size w w' := by
  obtain ⟨S, g, h1, _⟩ := h
  exact wobjs_any h1 hs i
theorem WT.cut (h : WT w0 w b V T) (a : Int) : Calls Tryz.prog 8 #[ptr b, .int .i64 a] w fun e w' => e = .returned (er (cutW V a).1) ∧ WT w0 w' b (cutW V a).2 T ∧ Kpt T w w' := by
  obtain ⟨S, g, h1, _, k⟩ := h.go
  exact (cut_any h1 a).mono fun _ _ ⟨e1, e2⟩ => ⟨e1, k _ _ e2⟩
theorem WT.strike (h : WT w0 w b V T) {N : Nat} (hF : ∀ x ∈ V.l, Fit N x.st) (hN : N ≤ 1000000) (k t n a c : Int) (hk0 : 0 ≤ k) (hk : k < 256) (hn : n < 9223372036854775808) (ha : a < 9223372036854775808) : Calls Tryz.prog 12 #[ptr b, fv k t n a c] w fun e w' => e = .returned (er (strikeW V k t n a c).1) ∧ WT w0 w' b (strikeW V k t n a c).2 T ∧ Kpt T w w' := by
  obtain ⟨S, g, h1, _, kk⟩ := h.go
  exact (wstrike_any h1 hF hN k t n a c hk0 hk hn ha).mono fun _ _ ⟨e1, e2⟩ => ⟨e1, kk _ _ e2⟩
theorem WT.crash (h : WT w0 w b V T) (hn : V.l.length ≤ 1000) {N : Nat} (hF : ∀ x ∈ V.l, Fit N x.st ∧ (x.st.writes ≠ [] → x.st.live = true)) (hN : N ≤ 400000) (lv : Value) (sv : List Sv) (hlv : RdS w0 lv sv) (hsl : sv.length ≤ 9223372036854775807) : Calls Tryz.prog 10 #[ptr b, lv] w fun e w' => e = .returned (er 0) ∧ WT w0 w' b (crashW V sv) T ∧ Kpt T w w' := by
  obtain ⟨S, g, h1, hS, kk⟩ := h.go
  exact (wcrash_any h1 hn hF hN h.base hS lv sv hlv hsl).mono fun _ _ ⟨e1, e2⟩ => ⟨e1, kk _ _ e2⟩
theorem WT.copy (h : WT w0 w b V T) (hL : 0 < V.l.length ∧ V.l.length ≤ 1000) (hw : ∀ x ∈ V.l, x.st.writes.length ≤ 1000000) : Calls Tryz.prog 30 #[ptr b] w fun e w' => ∃ b', e = .returned (ptr b') ∧ ∃ l', WT w w' b' { V with l := l' } (fun _ => False) ∧ sameK l' V.l ∧ Below w.heap.size w w' := by
  obtain ⟨S, g, h1, _⟩ := h
  refine (wcopy_any h1 hL hw).mono ?_
  rintro _ w' ⟨b', rfl, g', S', l', a1, a2, a3, a4⟩
  exact ⟨b', rfl, l', ⟨S', g', a1, a3, a4, fun _ hi => hi.elim⟩, a2, a4⟩
/-- objects that can be read: their cells -/
theorem row_objs {w w' : World} {B : Nat} {v : Value} {l : List Ob} (h : w.ownsRow B 131 2 v l.length (objCells l)) (hl : 0 < l.length) : ∃ g c, v = .slice (some ⟨g, 0, none⟩) l.length c ∧ g < w.heap.size ∧ ∀ (j : Nat) (p : Ob), l[j]? = some p → w.cell? ⟨g, j * 2, none⟩ = some (.string p.1) ∧ w.cell? ⟨g, j * 2 + 1, none⟩ = some (.string p.2) := by
  obtain ⟨g, c, e, h1, h2⟩ := obj_at h hl
  refine ⟨g, c, e, World.block_lt_of_cell? (h := h1), fun j p hp => ?_⟩
  have hj := (List.getElem?_eq_some_iff.1 hp).1
  obtain ⟨g', c', e', h1', h2'⟩ := obj_at h hj
  rw [e] at e'
  cases e'
  rw [List.getD_eq_getElem?_getD, hp] at h1' h2'
  exact ⟨h1', h2'⟩
theorem rd_form (a s : ByteArray) : ∃ (a0 a1 a3 z : Int) (a2 a4 : ByteArray), S.rdV a s = .tuple #[.agg #[.int .i64 a0, .int .i64 a1, .string a2, .int .i64 a3, .string a4], .int .i64 z] ∧ ((z = 0 ∧ S.rdOk a s = true) ∨ (z = 4 ∧ S.rdOk a s = false)) := by
  unfold S.rdV
  cases h : S.rdOk a s with
  | true => exact ⟨_, _, _, _, _, _, rfl, .inl ⟨rfl, rfl⟩⟩
  | false => exact ⟨_, _, _, _, _, _, rfl, .inr ⟨rfl, rfl⟩⟩
/-- is an object among these? -/
def inB (p : Ob) (l : List Ob) : Bool := l.any fun r => decide ((r.1, r.2) = (p.1, p.2))
theorem inB_succ {l : List Ob} {j : Nat} {p q : Ob} (hq : l[j]? = some q) : inB p (l.take (j + 1)) = (inB p (l.take j) || decide ((q.1, q.2) = (p.1, p.2))) := by
  unfold inB
  rw [List.take_add_one, hq, List.any_append]
  simp
/-- a list of objects that can be read -/
def RdO (w : World) (v : Value) (O : List Ob) : Prop := ∃ A c, v = .slice A O.length c ∧ ∀ (j : Nat) (p : Ob), O[j]? = some p → ∃ g, A = some ⟨g, 0, none⟩ ∧ g < w.heap.size ∧ w.cell? ⟨g, j * 2, none⟩ = some (.string p.1) ∧ w.cell? ⟨g, j * 2 + 1, none⟩ = some (.string p.2)
theorem RdO.of {B : Nat} {v : Value} {O : List Ob} (h : w.ownsRow B 131 2 v O.length (objCells O)) : RdO w v O := by
  obtain ⟨A, c, rfl⟩ := row_slice h
  refine ⟨A, c, rfl, fun j p hp => ?_⟩
  obtain ⟨g, c', e, hg, hc⟩ := row_objs (w' := w) h (by have := (List.getElem?_eq_some_iff.1 hp).1; omega)
  cases e
  exact ⟨g, rfl, hg, hc j p hp⟩
theorem RdO.below {v : Value} {O : List Ob} (h : RdO w v O) (hb : Below w.heap.size w w') : RdO w' v O := by
  obtain ⟨A, c, e, h⟩ := h
  refine ⟨A, c, e, fun j p hp => ?_⟩
  obtain ⟨g, h1, h2, h3, h4⟩ := h j p hp
  exact ⟨g, h1, Nat.lt_of_lt_of_le h2 hb.size, by rw [hb.cell (p := ⟨g, j * 2, none⟩) h2]; exact h3, by rw [hb.cell (p := ⟨g, j * 2 + 1, none⟩) h2]; exact h4⟩
/-- those that were not there -/
def newO (O4 O5 : List Ob) : List Ob := O5.filter fun p => !inB p O4
theorem newO_len (O4 O5 : List Ob) : (newO O4 O5).length ≤ O5.length := List.length_filter_le _ _
theorem newO_snoc (O4 O5 : List Ob) (p : Ob) : newO O4 (O5 ++ [p]) = newO O4 O5 ++ if inB p O4 then [] else [p] := by
  unfold newO
  rw [List.filter_append]
  cases h : inB p O4 <;> simp [h]
/-- whether one of them is a sound shard -/
def forgedB (O4 O5 : List Ob) : Bool := (newO O4 O5).any fun p => S.rdOk p.1 p.2
def ndF (va vb : Value) (ga gb j k : Nat) (p q : Ob) (i : Nat) (v : Value) (_ : World) : Prop := match i with
  | 21 => v = .bool false | 22 => v = .bool false | 23 => v = va | 24 => v = .int .i64 (j : Int) | 25 => v = .pointer (some ⟨ga, j * 2, none⟩) | 26 => v = .agg #[.string p.1, .string p.2]
  | 27 => v = vb | 28 => v = .int .i64 (k : Int) | 29 => v = .pointer (some ⟨gb, k * 2, none⟩) | 30 => v = .agg #[.string q.1, .string q.2] | 31 => v = .bool (decide ((p.1, p.2) = (q.1, q.2))) | 32 => v = .bool (decide ((p.1, p.2) = (q.1, q.2)))
  | _ => True
def ndT (i : Nat) (v : Value) (_ : World) : Prop := match i with
  | 21 => v = .bool true | 22 => v = .bool true | 32 => v = .bool true
  | _ => True
set_option maxHeartbeats 8000000 in
set_option maxRecDepth 20000 in
theorem refNew_any {v4 v5 : Value} {O4 O5 : List Ob} (h4 : RdO w v4 O4) (h5 : RdO w v5 O5) (hn4 : O4.length ≤ 1000000) (hn5 : O5.length ≤ 1000000) :
    Calls Tryz.prog 60 #[v4, v5] w fun e w' => ∃ v, e = .returned v ∧ w'.ownsRow w.heap.size 131 2 v (newO O4 O5).length (objCells (newO O4 O5)) ∧ Below w.heap.size w w' := by
  obtain ⟨A4, e4, rfl, hc4⟩ := h4
  obtain ⟨A5, e5, rfl, hc5⟩ := h5
  have HC4 := hid hc4
  have HC5 := hid hc5
  obtain ⟨n4, hm4⟩ : ∃ n4, n4 = O4.length := ⟨_, rfl⟩
  obtain ⟨n5, hm5⟩ : ∃ n5, n5 = O5.length := ⟨_, rfl⟩
  have HN4 := hid hm4
  have HN5 := hid hm5
  rw [← hm4] at hn4 ⊢
  rw [← hm5] at hn5 ⊢
  clear hc4 hc5 hm4 hm5
  go_enter Tryz.func60, Tryz.ntmps60
  go_wp2_with fail
  go_loopg [5, 6, 7, 8] n5 (fun gk s5 s6 s7 s8 wx => ∃ k : Nat, k + gk = n5 ∧ s6 = .int .i64 (k : Int) ∧ Hid (Below w.heap.size w wx) ∧ Hid (wx.ownsRow w.heap.size 131 2 s5 (newO O4 (O5.take k)).length (objCells (newO O4 (O5.take k)))))
  case atStart => exact ⟨0, by omega, rfl, hid (Below.refl _ _), hid (by simpa [newO, objCells] using World.ownsRow_nil _ _ _ _)⟩
  case round =>
    obtain ⟨k, hk, rfl, HBX, HOW⟩ := hrel
    cases gk with
    | zero =>
      have q1 : ¬ ((k : Int) < (n5 : Int)) := by omega
      have HE : Hid (wr.ownsRow w.heap.size 131 2 u5 (newO O4 O5).length (objCells (newO O4 O5))) := hid (by
        have := HOW.out
        rw [List.take_of_length_le (by have := HN5.out; omega)] at this
        exact this)
      clear HOW
      go_wp2_with fail
      go_ret
      exact ⟨_, rfl, HE.out, HBX.out⟩
    | succ g1 =>
      have q1 : (k : Int) < (n5 : Int) := by omega
      have hk5 : k < n5 := by omega
      have wk : IntKind.i64.wrap ((k : Int) + 1) = ((k + 1 : Nat) : Int) := wrapN (b := 1) (by omega)
      obtain ⟨p, hp⟩ : ∃ p, O5[k]? = some p := ⟨_, List.getElem?_eq_getElem (by have := HN5.out; omega)⟩
      obtain ⟨g5, rfl, hg5, hx0, hx1⟩ := HC5.out k p hp
      have HD0 : Hid (∀ W, Below w.heap.size w W → W.cell? ⟨g5, k * 2, none⟩ = some (.string p.1)) := hid fun W hW => by rw [hW.cell (p := ⟨g5, k * 2, none⟩) hg5]; exact hx0
      have HD1 : Hid (∀ W, Below w.heap.size w W → W.cell? ⟨g5, k * 2 + 1, none⟩ = some (.string p.2)) := hid fun W hW => by rw [hW.cell (p := ⟨g5, k * 2 + 1, none⟩) hg5]; exact hx1
      have HP := hid hp
      have HS : Hid (newO O4 (O5.take (k + 1)) = newO O4 (O5.take k) ++ if inB p O4 then [] else [p]) := hid (by rw [List.take_add_one, hp, ← newO_snoc]; rfl)
      have HLN : Hid ((newO O4 (O5.take k)).length ≤ 1000000) := hid (Nat.le_trans (newO_len _ _) (by rw [List.length_take]; have := HN5.out; omega))
      clear hp hx0 hx1
      obtain ⟨wo, hwo⟩ : ∃ wo, wo = wr := ⟨_, rfl⟩
      subst hwo
      go_wp2_with fail
      go_loopg [7, 8] n4 (fun gj s7 s8 wy => ∃ j : Nat, j + gj = n4 ∧ s8 = .int .i64 (j : Int) ∧ s7 = .bool (inB p (O4.take j)) ∧ Hid (Below wo.heap.size wo wy))
      case atStart => exact ⟨0, by omega, rfl, rfl, hid (Below.refl _ _)⟩
      case round =>
        obtain ⟨j, hj, rfl, rfl, HBY⟩ := hrel
        have HBW : Hid (Below w.heap.size w wr) := hid (HBX.out.trans (HBY.out.mono HBX.out.size))
        cases gk with
        | zero =>
          have q2 : ¬ ((j : Int) < (n4 : Int)) := by omega
          have htk : O4.take j = O4 := List.take_of_length_le (by have := HN4.out; omega)
          rw [htk]
          have HOR := hid (row_below HOW.out HBY.out)
          cases hm : inB p O4 with
          | true =>
            have HO2 : Hid (wr.ownsRow w.heap.size 131 2 u5 (newO O4 (O5.take (k + 1))).length (objCells (newO O4 (O5.take (k + 1))))) := hid (by rw [HS.out, hm, if_pos rfl, List.append_nil]; exact HOR.out)
            clear hm htk HOW HOR HS HLN
            go_wp2_with fail
            go_roundg g1
            case measure => omega
            case rel => exact ⟨k + 1, by omega, by first | rfl | simp, HBW, HO2⟩
          | false =>
            have HS2 : Hid (newO O4 (O5.take (k + 1)) = newO O4 (O5.take k) ++ [p]) := hid (by rw [HS.out, hm]; rfl)
            have d0 := HD0.out _ HBW.out
            have d1 := HD1.out _ HBW.out
            obtain ⟨L, hL⟩ : ∃ L, L = newO O4 (O5.take k) := ⟨_, rfl⟩
            rw [← hL] at HOR HS2 HLN
            clear hm htk HOW HS hL
            obtain ⟨m, hmm⟩ : ∃ m, m = L.length := ⟨_, rfl⟩
            have HMM := hid hmm
            have hml : m ≤ 1000000 := by rw [hmm]; exact HLN.out
            rw [← hmm] at HOR
            clear hmm HLN
            have hsz : w.heap.size ≤ wr.heap.size := HBW.out.size
            go_wp2_with (at_builtin; refine wpList_app el28 rfl _ _ rfl w.heap.size _ m _ rfl (row_below HOR.out (boxed wr _)) ⟨wr.heap.size, 0, none⟩ 1 1 [.string p.1, .string p.2] rfl (by decide) rfl (new_cells wr [.string p.1, .string p.2] 131) (by simp [Value.oneCell']) (by omega) (by simp; omega) ?_; intro g3 cap3 w3 hr3 hg3; have HG3 := hid hg3; have HR3 := hid hr3; clear hr3 hg3)
            have HB3 : Hid (Below w.heap.size w w3) := hid (grown_below (HBW.out.trans ((boxed wr _).mono HBW.out.size)) (row_below HOR.out (boxed wr _)) HG3.out (Nat.le_refl _) (by simp; omega))
            have HO2 : Hid (w3.ownsRow w.heap.size 131 2 (.slice (some ⟨g3, 0, none⟩) (m + 1) cap3) (newO O4 (O5.take (k + 1))).length (objCells (newO O4 (O5.take (k + 1))))) := hid (by
              rw [HS2.out, objCells_snoc, List.length_append, ← HMM.out]
              exact HR3.out)
            clear HG3 HR3 HOR d0 d1
            go_roundg g1
            case measure => omega
            case rel => exact ⟨k + 1, by omega, by first | rfl | simp, HB3, HO2⟩
        | succ g2 =>
          have q2 : (j : Int) < (n4 : Int) := by omega
          have hj4 : j < n4 := by omega
          have wj : IntKind.i64.wrap ((j : Int) + 1) = ((j + 1 : Nat) : Int) := wrapN (b := 1) (by omega)
          obtain ⟨p4, hp4⟩ : ∃ p4, O4[j]? = some p4 := ⟨_, List.getElem?_eq_getElem (by have := HN4.out; omega)⟩
          obtain ⟨g4, rfl, hg4, hy0, hy1⟩ := HC4.out j p4 hp4
          have HP4 := hid hp4
          have HJ4 : Hid (j < n4) := hid hj4
          have HK5' : Hid (k < n5) := hid hk5
          have HY0 : Hid (∀ W, Below w.heap.size w W → W.cell? ⟨g4, j * 2, none⟩ = some (.string p4.1)) := hid fun W hW => by rw [hW.cell (p := ⟨g4, j * 2, none⟩) hg4]; exact hy0
          have HY1 : Hid (∀ W, Below w.heap.size w W → W.cell? ⟨g4, j * 2 + 1, none⟩ = some (.string p4.2)) := hid fun W hW => by rw [hW.cell (p := ⟨g4, j * 2 + 1, none⟩) hg4]; exact hy1
          clear hy0 hy1 hp4
          cases hm : inB p (O4.take j) with
          | true =>
            have HMM := hid (show inB p (O4.take (j + 1)) = true from by rw [inB_succ HP4.out, hm]; rfl)
            clear hm
            go_wp2_with fail
            refine Tl.wp_mix_lit (by kernel_rfl) 12 [21, 22, 23, 24, 25, 26, 27, 28, 29, 30, 31, 32] 43 rfl (by kernel_rfl) (BelW wr) ndT ((Below.refl _ _).drew)
              ⟨fun a' W' hC hF => ?_, fun a' W' hC hF => ?_, fun a' W' hC hF => ?_, fun a' W' hC hF => ?_, fun a' W' hC hF => ?_, fun a' W' hC hF => ?_, fun a' W' hC hF => ?_, fun a' W' hC hF => ?_, fun a' W' hC hF => ?_, fun a' W' hC hF => ?_, fun a' W' hC hF => ?_, fun a' W' hC hF => ?_, trivial⟩ ?_
            · exact Tl.sm_v 21 _ rfl (Tl.wanted_none rfl) hC rfl (rn_move rfl ((hF 7 (by decide +kernel)).2 (by decide)))
            · exact Tl.sm_v 22 _ rfl (Tl.wanted_none rfl) hC rfl (rn_move rfl ((hF 21 (by decide +kernel)).1 (by decide)))
            iterate 9 exact Tl.sm_skip (Tl.wanted_not rfl rfl ((hF 22 (by decide +kernel)).1 (by decide))) (fun d hd => by cases hd; trivial)
            · exact Tl.sm_v 32 _ rfl (Tl.wanted_none rfl) hC rfl (rn_pickT rfl ((hF 22 (by decide +kernel)).1 (by decide)) rfl)
            intro v wB hw hv
            have v32 : v 32 = .bool true := hv 32 (by decide)
            have HBB := hid (HBY.out.trans ((show Below wr.heap.size wr wB from hw).mono HBY.out.size))
            clear hv hw
            simp only [Tl.fill, List.drop_succ_cons, List.drop_zero, wpList]
            rw [if_pos (Tl.wanted_none rfl)]
            simp only [Act.put, List.setIfInBounds_toArray, List.set_cons_succ, List.set_cons_zero, v32]
            clear v32
            refine .inl (wp_assign (x := .tmp 32) (d := 7) (v := .bool true) ?_ ?_ ?_ ?_)
            · rfl
            · rfl
            · rfl
            simp only [Act.put, List.setIfInBounds_toArray, List.set_cons_succ, List.set_cons_zero]
            go_wp2_with fail
            go_roundg g2
            case measure => omega
            case rel => exact ⟨j + 1, by omega, by first | rfl | simp, by rw [HMM.out], HBB⟩
          | false =>
            have HMM := hid (show inB p (O4.take (j + 1)) = decide ((p4.1, p4.2) = (p.1, p.2)) from by rw [inB_succ HP4.out, hm]; rfl)
            clear hm
            go_wp2_with fail
            refine Tl.wp_mix_lit (by kernel_rfl) 12 [21, 22, 23, 24, 25, 26, 27, 28, 29, 30, 31, 32] 43 rfl (by kernel_rfl) (BelW wr) (ndF (.slice (some ⟨g4, 0, none⟩) n4 e4) (.slice (some ⟨g5, 0, none⟩) n5 e5) g4 g5 j k p4 p) ((Below.refl _ _).drew)
              ⟨fun a' W' hC hF => ?_, fun a' W' hC hF => ?_, fun a' W' hC hF => ?_, fun a' W' hC hF => ?_, fun a' W' hC hF => ?_, fun a' W' hC hF => ?_, fun a' W' hC hF => ?_, fun a' W' hC hF => ?_, fun a' W' hC hF => ?_, fun a' W' hC hF => ?_, fun a' W' hC hF => ?_, fun a' W' hC hF => ?_, trivial⟩ ?_
            · exact Tl.sm_v 21 _ rfl (Tl.wanted_none rfl) hC rfl (rn_move rfl ((hF 7 (by decide +kernel)).2 (by decide)))
            · exact Tl.sm_v 22 _ rfl (Tl.wanted_none rfl) hC rfl (rn_move rfl ((hF 21 (by decide +kernel)).1 (by decide)))
            · exact Tl.sm_v 23 _ rfl (Tl.wanted_is rfl rfl ((hF 22 (by decide +kernel)).1 (by decide))) hC rfl (rn_move rfl ((hF 0 (by decide +kernel)).2 (by decide)))
            · exact Tl.sm_v 24 _ rfl (Tl.wanted_is rfl rfl ((hF 22 (by decide +kernel)).1 (by decide))) hC rfl (rn_move rfl ((hF 8 (by decide +kernel)).2 (by decide)))
            · exact Tl.sm_v 25 _ rfl (Tl.wanted_is rfl rfl ((hF 22 (by decide +kernel)).1 (by decide))) hC rfl (rn_ix55 rfl ((hF 23 (by decide +kernel)).1 (by decide)) ((hF 24 (by decide +kernel)).1 (by decide)) HJ4.out)
            · exact Tl.sm_v 26 _ rfl (Tl.wanted_is rfl rfl ((hF 22 (by decide +kernel)).1 (by decide))) hC rfl (rn_load28 rfl ((hF 25 (by decide +kernel)).1 (by decide)) (HY0.out W' (HBW.out.trans (Below.mono hC HBW.out.size))) (HY1.out W' (HBW.out.trans (Below.mono hC HBW.out.size))))
            · exact Tl.sm_v 27 _ rfl (Tl.wanted_is rfl rfl ((hF 22 (by decide +kernel)).1 (by decide))) hC rfl (rn_move rfl ((hF 1 (by decide +kernel)).2 (by decide)))
            · exact Tl.sm_v 28 _ rfl (Tl.wanted_is rfl rfl ((hF 22 (by decide +kernel)).1 (by decide))) hC rfl (rn_move rfl ((hF 6 (by decide +kernel)).2 (by decide)))
            · exact Tl.sm_v 29 _ rfl (Tl.wanted_is rfl rfl ((hF 22 (by decide +kernel)).1 (by decide))) hC rfl (rn_ix55 rfl ((hF 27 (by decide +kernel)).1 (by decide)) ((hF 28 (by decide +kernel)).1 (by decide)) HK5'.out)
            · exact Tl.sm_v 30 _ rfl (Tl.wanted_is rfl rfl ((hF 22 (by decide +kernel)).1 (by decide))) hC rfl (rn_load28 rfl ((hF 29 (by decide +kernel)).1 (by decide)) (HD0.out W' (HBW.out.trans (Below.mono hC HBW.out.size))) (HD1.out W' (HBW.out.trans (Below.mono hC HBW.out.size))))
            · exact Tl.sm_v 31 _ rfl (Tl.wanted_is rfl rfl ((hF 22 (by decide +kernel)).1 (by decide))) hC rfl (rn_eql64 rfl ((hF 26 (by decide +kernel)).1 (by decide)) ((hF 30 (by decide +kernel)).1 (by decide)))
            · exact Tl.sm_v 32 _ rfl (Tl.wanted_none rfl) hC rfl (rn_pickF rfl ((hF 22 (by decide +kernel)).1 (by decide)) ((hF 31 (by decide +kernel)).1 (by decide)))
            intro v wB hw hv
            have v32 : v 32 = .bool (decide ((p4.1, p4.2) = (p.1, p.2))) := hv 32 (by decide)
            have HBB := hid (HBY.out.trans ((show Below wr.heap.size wr wB from hw).mono HBY.out.size))
            clear hv hw
            obtain ⟨nx, hnx⟩ : ∃ nx, decide ((p4.1, p4.2) = (p.1, p.2)) = nx := ⟨_, rfl⟩
            rw [hnx] at v32
            have HNX := hid (HMM.out.trans hnx)
            clear hnx HMM
            simp only [Tl.fill, List.drop_succ_cons, List.drop_zero, wpList]
            rw [if_pos (Tl.wanted_none rfl)]
            simp only [Act.put, List.setIfInBounds_toArray, List.set_cons_succ, List.set_cons_zero, v32]
            clear v32
            refine .inl (wp_assign (x := .tmp 32) (d := 7) (v := .bool nx) ?_ ?_ ?_ ?_)
            · rfl
            · rfl
            · rfl
            simp only [Act.put, List.setIfInBounds_toArray, List.set_cons_succ, List.set_cons_zero]
            go_wp2_with fail
            go_roundg g2
            case measure => omega
            case rel => exact ⟨j + 1, by omega, by first | rfl | simp, by rw [HNX.out], HBB⟩
set_option maxHeartbeats 8000000 in
set_option maxRecDepth 20000 in
theorem forged_any {v4 v5 : Value} {O4 O5 : List Ob} (h4 : RdO w v4 O4) (h5 : RdO w v5 O5) (hn4 : O4.length ≤ 1000000) (hn5 : O5.length ≤ 1000000) (hsz : ∀ p ∈ O5, p.2.size ≤ 1000000) :
    Calls Tryz.prog 62 #[v4, v5] w fun e w' => e = .returned (.bool (forgedB O4 O5)) ∧ Below w.heap.size w w' := by
  have HN := refNew_any h4 h5 hn4 hn5
  obtain ⟨A4, e4, rfl, _⟩ := h4
  obtain ⟨A5, e5, rfl, _⟩ := h5
  have HLN : Hid ((newO O4 O5).length ≤ 1000000) := hid (Nat.le_trans (newO_len _ _) hn5)
  have HSZ : Hid (∀ p ∈ newO O4 O5, p.2.size ≤ 1000000) := hid fun p hp => hsz p (List.mem_filter.1 hp).1
  have HFB : Hid (forgedB O4 O5 = (newO O4 O5).any fun p => S.rdOk p.1 p.2) := hid rfl
  rw [HFB.out]
  clear hsz HFB
  generalize newO O4 O5 = L at *
  generalize O4.length = n4 at *
  generalize O5.length = n5 at *
  go_enter Tryz.func62, Tryz.ntmps62
  go_wp2_with fail
  refine HN.mono ?_
  rintro _ w1 ⟨v, rfl, hr, hb⟩
  obtain ⟨A, c, rfl, hc⟩ := RdO.of hr
  have HC := hid hc
  have HB := hid hb
  obtain ⟨m, hm⟩ : ∃ m, m = L.length := ⟨_, rfl⟩
  have HM := hid hm
  have hml : m ≤ 1000000 := by rw [hm]; exact HLN.out
  rw [← hm]
  clear hr hc hb hm HLN HN
  go_wp2_with fail
  go_loopg [6, 7, 8] m (fun gk s6 s7 s8 wx => ∃ k : Nat, k + gk = m ∧ s6 = .int .i64 (k : Int) ∧ Hid (Below w1.heap.size w1 wx) ∧ Hid ((L.take k).any (fun p => S.rdOk p.1 p.2) = false))
  case atStart => exact ⟨0, by omega, rfl, hid (Below.refl _ _), hid rfl⟩
  case round =>
    obtain ⟨k, hk, rfl, HBX, HNO⟩ := hrel
    cases gk with
    | zero =>
      have q1 : ¬ ((k : Int) < (m : Int)) := by omega
      have HE : Hid (L.any (fun p => S.rdOk p.1 p.2) = false) := hid (by
        have := HNO.out
        rw [List.take_of_length_le (by have := HM.out; omega)] at this
        exact this)
      clear HNO
      go_wp2_with fail
      go_ret
      exact ⟨by rw [HE.out]; rfl, HB.out.trans (HBX.out.mono HB.out.size)⟩
    | succ g1 =>
      have q1 : (k : Int) < (m : Int) := by omega
      have wk : IntKind.i64.wrap ((k : Int) + 1) = ((k + 1 : Nat) : Int) := wrapN (b := 1) (by omega)
      obtain ⟨p, hp⟩ : ∃ p, L[k]? = some p := ⟨_, List.getElem?_eq_getElem (by have := HM.out; omega)⟩
      obtain ⟨g, rfl, hg, hx0, hx1⟩ := HC.out k p hp
      have d0 : wr.cell? ⟨g, k * 2, none⟩ = some (.string p.1) := by rw [HBX.out.cell (p := ⟨g, k * 2, none⟩) hg]; exact hx0
      have d1 : wr.cell? ⟨g, k * 2 + 1, none⟩ = some (.string p.2) := by rw [HBX.out.cell (p := ⟨g, k * 2 + 1, none⟩) hg]; exact hx1
      have HP := hid hp
      have HTK : Hid ((L.take (k + 1)).any (fun p => S.rdOk p.1 p.2) = S.rdOk p.1 p.2) := hid (by
        rw [List.take_add_one, hp, List.any_append, HNO.out]
        simp)
      have HAL : Hid (S.rdOk p.1 p.2 = true → L.any (fun p => S.rdOk p.1 p.2) = true) := hid fun h => List.any_eq_true.2 ⟨p, List.mem_of_getElem? hp, h⟩
      have HRD := S.refRead_any p.1 p.2 (HSZ.out p (List.mem_of_getElem? hp)) wr
      obtain ⟨a0, a1, a3, z, a2, a4, hrd, hz⟩ := rd_form p.1 p.2
      have HZ := hid hz
      rw [hrd] at HRD
      unfold S.obv at HRD
      clear hp hx0 hx1 hrd hz HNO
      go_wp2_with fail
      refine HRD.mono ?_
      clear HRD d0 d1
      rintro _ w6 ⟨rfl, hb6⟩
      have HB6 := hid (HBX.out.trans (hb6.mono HBX.out.size))
      have HB7 := hid (HB6.out.trans ((boxed w6 (.cells #[.int .i64 a0, .int .i64 a1, .string a2, .int .i64 a3, .string a4] 155)).mono HB6.out.size))
      clear hb6 HB6
      rcases HZ.out with ⟨rfl, hr⟩ | ⟨rfl, hr⟩
      · have HE := hid (HAL.out hr)
        clear hr HZ
        go_wp2_with fail
        go_ret
        exact ⟨by rw [HE.out]; rfl, HB.out.trans (HB7.out.mono HB.out.size)⟩
      · have HE : Hid ((L.take (k + 1)).any (fun p => S.rdOk p.1 p.2) = false) := hid (by rw [HTK.out]; exact hr)
        clear hr HZ
        go_wp2_with fail
        go_roundg g1
        case measure => omega
        case rel => exact ⟨k + 1, by omega, by first | rfl | simp, HB7, HE⟩
theorem RdS.at {v : Value} {l : List Sv} (h : RdS w v l) (hb : Below w.heap.size w w') {k : Nat} {x : Sv} (hx : l[k]? = some x) : ∃ g o c A cc, v = .slice (some ⟨g, o, none⟩) l.length c ∧ w'.cell? ⟨g, o + k, none⟩ = some (.slice A x.ks.length cc) := by
  rcases h.1 with ⟨A, c, rfl, rfl⟩ | ⟨g, o, cap, _, rfl, hg, hc⟩
  · simp at hx
  · obtain ⟨A, cc, hf⟩ := ((h.2 x (List.mem_of_getElem? hx)).1).form
    refine ⟨g, o, cap, A, cc, rfl, ?_⟩
    rw [hb.cell (p := ⟨g, o + k, none⟩) hg, hc k x hx, hf]
end Go.Proofs.YtmpgfpmkmgebdaaGreatDoor
