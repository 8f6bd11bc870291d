/- Stripe's laws: strike: a fault, unless it makes of an object a sound shard that it was not. -/
import Derived.Test.YtffhobkoagnhhaaGreatDoorOpn
import Derived.Test.YtffhobkoagnhhaaGreatDoorM6
import Derived.Test.YtffhobkoagnhhaaGreatDoorOpn2
namespace Go.Proofs.YtffhobkoagnhhaaGreatDoor
open Go.RowKit Go.Maps
open W
set_option linter.unusedVariables false
variable {w0 w w' : World} {b : Nat} {V V' : Wd} {T : Nat → Prop}
/-- the fault makes of no object of its store a sound shard that it was not -/
def Fair (V : Wd) (k t n a c : Int) : Prop := ∀ p ∈ objsW (strikeW V k t n a c).2 t, H.rdOk p.1 p.2 = true → p ∈ objsW V t
theorem sameK_at {l l' : List Kp} (h : sameK l' l) {i : Nat} {x : Kp} (hx : l[i]? = some x) : ∃ y, l'[i]? = some y ∧ y.st = x.st ∧ y.sus = x.sus := by
  have := congrArg (fun z => z[i]?) h
  simp only [List.getElem?_map, hx, Option.map_some] at this
  cases hy : l'[i]? with
  | none => rw [hy] at this; simp at this
  | some y =>
    rw [hy] at this
    simp only [Option.map_some, Option.some.injEq, Prod.mk.injEq] at this
    exact ⟨y, rfl, this.1, this.2⟩
theorem sameK_len {l l' : List Kp} (h : sameK l' l) : l'.length = l.length := by
  have := congrArg List.length h
  simpa using this
/-- a copy is struck as it is -/
theorem strike_copy {l' : List Kp} (h : sameK l' V.l) (k t n a c : Int) : objsW (strikeW { V with l := l' } k t n a c).2 t = objsW (strikeW V k t n a c).2 t := by
  have hl := sameK_len h
  by_cases ht : 0 ≤ t ∧ t < (V.l.length : Int)
  · obtain ⟨x, hx⟩ : ∃ x, V.l[t.toNat]? = some x := ⟨_, List.getElem?_eq_getElem (by omega)⟩
    obtain ⟨y, hy, e1, e2⟩ := sameK_at h hx
    have hi : t.toNat < V.l.length := (List.getElem?_eq_some_iff.1 hx).1
    have hi' : t.toNat < l'.length := (List.getElem?_eq_some_iff.1 hy).1
    unfold strikeW
    rw [if_pos ht, if_pos (show 0 ≤ t ∧ t < (l'.length : Int) by omega)]
    rw [show ({ V with l := l' } : Wd).l[t.toNat]? = some y from hy, hx]
    simp only
    rw [e1]
    unfold objsW
    simp only [List.length_set]
    rw [if_pos ht, if_pos (show 0 ≤ t ∧ t < (l'.length : Int) by omega), List.getElem?_set_self hi, List.getElem?_set_self hi']
  · unfold strikeW
    rw [if_neg ht, if_neg (show ¬ (0 ≤ t ∧ t < (({ V with l := l' } : Wd).l.length : Int)) by show ¬ (0 ≤ t ∧ t < (l'.length : Int)); omega)]
    unfold objsW
    rw [if_neg ht, if_neg (show ¬ (0 ≤ t ∧ t < (({ V with l := l' } : Wd).l.length : Int)) by show ¬ (0 ≤ t ∧ t < (l'.length : Int)); omega)]
theorem sameK_fit {l l' : List Kp} (h : sameK l' l) {N : Nat} (hF : ∀ x ∈ l, Fit N x.st) : ∀ x ∈ l', Fit N x.st := fun x hx => by
  have hm : (x.st, x.sus) ∈ l'.map (fun x => (x.st, x.sus)) := List.mem_map.2 ⟨x, hx, rfl⟩
  rw [h] at hm
  obtain ⟨y, hy, e⟩ := List.mem_map.1 hm
  rw [Prod.mk.injEq] at e
  rw [← e.1]
  exact hF y hy
theorem strikeS_len (s : St) (k n a c : Int) : (strikeS s k n a c).2.seen.length ≤ s.seen.length + 1 := by
  unfold strikeS
  split
  · simp
  · simp only
    split <;> try simp
    · unfold loseS
      simp only
      split
      · omega
      · exact Nat.le_succ_of_le (length_drop_le _ _)
    · unfold bendS
      split
      · simp
      · split
        · simp
        · exact length_put_le _ _
theorem strikeW_len (h : ∀ x ∈ V.l, Fit 100 x.st) (k t n a c : Int) : ∀ x ∈ (strikeW V k t n a c).2.l, x.st.seen.length ≤ 1000000 := by
  unfold strikeW
  split
  · split
    · rename_i y hy
      intro x hx
      rcases List.mem_or_eq_of_mem_set hx with hx | hx
      · exact Nat.le_trans (h x hx).seen (by decide)
      · rw [hx]
        have := strikeS_len y.st k n a c
        have := (h y (List.mem_of_getElem? hy)).seen
        show (strikeS y.st k n a c).2.seen.length ≤ _
        omega
    · exact fun x hx => Nat.le_trans (h x hx).seen (by decide)
  · exact fun x hx => Nat.le_trans (h x hx).seen (by decide)
/-- objects that can be read: their cells -/
theorem row_objs {w w' : World} {B : Nat} {v : Value} {l : List Ob} (h : w.ownsRow B 64 2 v l.length (objCells l)) (hl : 0 < l.length) : ∃ g c, v = .slice (some ⟨g, 0, none⟩) l.length c ∧ g < w.heap.size ∧ ∀ (j : Nat) (p : Ob), l[j]? = some p → w.cell? ⟨g, j * 2, none⟩ = some (.string p.1) ∧ w.cell? ⟨g, j * 2 + 1, none⟩ = some (.string p.2) := by
  obtain ⟨g, c, e, h1, h2⟩ := obj_at h hl
  refine ⟨g, c, e, World.block_lt_of_cell? (h := h1), fun j p hp => ?_⟩
  have hj := (List.getElem?_eq_some_iff.1 hp).1
  obtain ⟨g', c', e', h1', h2'⟩ := obj_at h hj
  rw [e] at e'
  cases e'
  rw [List.getD_eq_getElem?_getD, hp] at h1' h2'
  exact ⟨h1', h2'⟩
section
variable {ev : Operand → Value} {o : Oper} {w : World} {x y z : Operand}
end
def odF (old : Bool) (va vb : Value) (ga gb j k : Nat) (p q : Ob) (i : Nat) (v : Value) (_ : World) : Prop := match i with
  | 45 => v = .bool old | 46 => v = .bool old | 47 => v = va | 48 => v = .int .i64 (j : Int) | 49 => v = .pointer (some ⟨ga, j * 2, none⟩) | 50 => v = .agg #[.string p.1, .string p.2]
  | 51 => v = vb | 52 => v = .int .i64 (k : Int) | 53 => v = .pointer (some ⟨gb, k * 2, none⟩) | 54 => v = .agg #[.string q.1, .string q.2] | 55 => v = .bool (decide ((p.1, p.2) = (q.1, q.2))) | 56 => v = .bool (decide ((p.1, p.2) = (q.1, q.2)))
  | _ => True
def odT (i : Nat) (v : Value) (_ : World) : Prop := match i with
  | 45 => v = .bool true | 46 => v = .bool true | 56 => v = .bool true
  | _ => True
end Go.Proofs.YtffhobkoagnhhaaGreatDoor
/- Stripe's laws: strike, walked. -/
namespace Go.Proofs.YtffhobkoagnhhaaGreatDoor
open Go.RowKit Go.Maps
open W
set_option linter.unusedVariables false
variable {w0 w w' : World} {b : Nat} {V V' : Wd} {T : Nat → Prop}
theorem rd_form (a s : ByteArray) : ∃ (a0 a1 a3 z : Int) (a2 a4 : ByteArray), H.rdV a s = .tuple #[.agg #[.int .i64 a0, .int .i64 a1, .string a2, .int .i64 a3, .string a4], .int .i64 z] ∧ ((z = 0 ∧ H.rdOk a s = true) ∨ (z = 4 ∧ H.rdOk a s = false)) := by
  unfold H.rdV
  cases h : H.rdOk a s with
  | true => exact ⟨_, _, _, _, _, _, rfl, .inl ⟨rfl, rfl⟩⟩
  | false => exact ⟨_, _, _, _, _, _, rfl, .inr ⟨rfl, rfl⟩⟩
theorem take_mem {l : List Ob} {j : Nat} {p q : Ob} (hp : l[j]? = some p) : (q ∈ l.take (j + 1)) ↔ (q ∈ l.take j ∨ q = p) := by
  rw [List.take_add_one, hp]
  simp
theorem objsW_len {M : Nat} (h : ∀ x ∈ V.l, x.st.seen.length ≤ M) (i : Int) : (objsW V i).length ≤ M := by
  unfold objsW
  split
  · split
    · rename_i x hx
      exact h x (List.mem_of_getElem? hx)
    · exact Nat.zero_le _
  · exact Nat.zero_le _
/-- is an object among these? -/
def inB (p : Ob) (l : List Ob) : Bool := l.any fun r => decide ((r.1, r.2) = (p.1, p.2))
theorem inB_mem {p : Ob} {l : List Ob} : inB p l = true ↔ p ∈ l := by
  unfold inB
  rw [List.any_eq_true]
  constructor
  · rintro ⟨r, hr, e⟩
    have : r = p := of_decide_eq_true e
    rw [← this]; exact hr
  · exact fun h => ⟨p, h, decide_eq_true rfl⟩
theorem inB_succ {l : List Ob} {j : Nat} {p q : Ob} (hq : l[j]? = some q) : inB p (l.take (j + 1)) = (inB p (l.take j) || decide ((q.1, q.2) = (p.1, p.2))) := by
  unfold inB
  rw [List.take_add_one, hq, List.any_append]
  simp
set_option maxHeartbeats 8000000 in
set_option maxRecDepth 20000 in
theorem strike27_any (h : WT w0 w b V T) (hl : H.Lay w0) (hL : 0 < V.l.length ∧ V.l.length ≤ 1000) (hF : ∀ x ∈ V.l, Fit 100 x.st) (fk ft fn fa fc : Int) (hs : (0 ≤ fk ∧ fk < 256) ∧ fn < 9223372036854775808 ∧ fa < 9223372036854775808) (Q : Ending → World → Prop)
    (hq : ∀ w' V', (V' = V ∨ (Fair V fk ft fn fa fc ∧ V' = (strikeW V fk ft fn fa fc).2)) → WT w0 w' b V' T → Kpt T w w' → Q (.returned (.tuple #[])) w') : Calls Tryz.prog 27 #[.pointer (some ⟨b, 0, none⟩), .agg #[.int .u8 fk, .int .i64 ft, .int .i64 fn, .int .i64 fa, .int .i64 fc]] w Q := by
  have HQ := hid hq
  have HS := hid hs
  have HFF := hid hF
  have HLL := hid hL
  have HL := hid hl
  obtain ⟨wa, hwa⟩ : ∃ wa, wa = w.alloc (.cells #[.int .u8 fk, .int .i64 ft, .int .i64 fn, .int .i64 fa, .int .i64 fc] 47) := ⟨_, rfl⟩
  have HB := hid (boxed w (.cells #[.int .u8 fk, .int .i64 ft, .int .i64 fn, .int .i64 fa, .int .i64 fc] 47))
  have HX := hid (Has.new w w.heap.size #[.int .u8 fk, .int .i64 ft, .int .i64 fn, .int .i64 fa, .int .i64 fc] 47 rfl)
  rw [← hwa] at HB HX
  have HW := hid (h.below HB.out)
  have HK := hid (Kpt.below h HB.out)
  have HTL := hid h.lt
  obtain ⟨q, hqq⟩ : ∃ q, q = w.heap.size := ⟨_, rfl⟩
  rw [← hqq] at HX
  have HQL : Hid (q < wa.heap.size) := hid HX.out.lt
  clear h hq hs hF hL hl
  go_enter Tryz.func27, Tryz.ntmps27
  go_wp2_with fail
  rw [← hwa, ← hqq]
  clear hwa hqq
  refine (HW.out.copy HLL.out (fun x hx => Nat.le_trans (HFF.out x hx).writes (by decide))).mono ?_
  rintro _ w2 ⟨b2, rfl, l', h2, hsk, hb2⟩
  have HSK := hid hsk
  have HC2 := hid (h2.rebase HW.out.base)
  have HO2 := hid (HW.out.old.below hb2)
  have HX2 := hid (HX.out.below hb2 HX.out.lt)
  have HK2 := hid (HK.out.trans (Kpt.below HW.out hb2))
  have HTA : Hid (∀ i, T i → i < wa.heap.size) := hid HW.out.lt
  clear h2 hsk hb2 HW HK HX HB
  obtain ⟨c0, c1, c2, c3, c4⟩ := five_cells HX2.out
  unfold ptr
  go_wp2_with fail
  refine strikeB HC2.out (sameK_fit HSK.out HFF.out) HS.out (Prod.eta _).symm _ ?_
  intro w3 h3 k3
  have HC3 := hid h3
  have HO3 := hid (HO2.out.kept k3 h3.base)
  have HX3 := hid (k3.has HQL.out HX2.out)
  have HK3 := hid (HK2.out.trans (k3.sub HTA.out))
  clear h3 k3 HC2 HO2 HX2 HK2 c0 c1 c2 c3 c4
  obtain ⟨c0, c1, c2, c3, c4⟩ := five_cells HX3.out
  go_wp2_with fail
  refine (HO3.out.back.objs (fun x hx => Nat.le_trans (HFF.out x hx).seen (by decide)) ft).mono ?_
  rintro _ w4 ⟨v4, rfl, r4, hb4⟩
  have HC4 := hid (HC3.out.below hb4)
  have HO4 := hid (HO3.out.below hb4)
  have HX4 := hid (HX3.out.below hb4 HX3.out.lt)
  have HK4 := hid (HK3.out.trans (Kpt.below HO3.out.back hb4))
  have HR4 := hid r4
  clear r4 hb4 HC3 HO3 HX3 HK3 c0 c1 c2 c3 c4
  obtain ⟨c0, c1, c2, c3, c4⟩ := five_cells HX4.out
  go_wp2_with fail
  refine (HC4.out.objs (strikeW_len (sameK_fit HSK.out HFF.out) fk ft fn fa fc) ft).mono ?_
  rintro _ w5 ⟨v5, rfl, r5, hb5⟩
  rw [strike_copy HSK.out] at r5
  have HO5 := hid (HO4.out.below hb5)
  have HX5 := hid (HX4.out.below hb5 HX4.out.lt)
  have HK5 := hid (HK4.out.trans (Kpt.below HO4.out.back hb5))
  have HR5 := hid r5
  have HB5 := hid hb5
  obtain ⟨A4, e4, rfl⟩ := row_slice HR4.out
  obtain ⟨A5, e5, rfl⟩ := row_slice HR5.out
  clear r5 hb5 HC4 HO4 HX4 HK4 c0 c1 c2 c3 c4
  obtain ⟨O4, hO4⟩ : ∃ O4, O4 = objsW V ft := ⟨_, rfl⟩
  obtain ⟨O5, hO5⟩ : ∃ O5, O5 = objsW (strikeW V fk ft fn fa fc).2 ft := ⟨_, rfl⟩
  rw [← hO4] at HR4
  rw [← hO5] at HR5
  have HE4 := hid hO4
  have HE5 := hid hO5
  rw [← hO4, ← hO5]
  clear hO4 hO5
  obtain ⟨n4, hn4⟩ : ∃ n4, n4 = O4.length := ⟨_, rfl⟩
  obtain ⟨n5, hn5⟩ : ∃ n5, n5 = O5.length := ⟨_, rfl⟩
  have HN4 := hid hn4
  have HN5 := hid hn5
  have hb4 : n4 ≤ 1000000 := by rw [hn4, HE4.out]; exact objsW_len (fun x hx => Nat.le_trans (HFF.out x hx).seen (by decide)) ft
  have hb5 : n5 ≤ 1000000 := by rw [hn5, HE5.out]; exact objsW_len (strikeW_len HFF.out fk ft fn fa fc) ft
  rw [← hn4] at HR4
  rw [← hn5] at HR5
  rw [← hn4, ← hn5]
  clear hn4 hn5
  have hq5 : q < w5.heap.size := HX5.out.lt
  go_wp2_with fail
  go_loopg [7, 8, 9, 10, 11] n5 (fun gk s7 s8 s9 s10 s11 wx => ∃ k : Nat, k + gk = n5 ∧ s7 = .int .i64 (k : Int) ∧ Hid (Below w5.heap.size w5 wx) ∧ Hid (∀ p ∈ O5.take k, H.rdOk p.1 p.2 = true → p ∈ O4))
  case atStart => exact ⟨0, by omega, rfl, hid (Below.refl _ _), hid (fun p hp => by simp at hp)⟩
  case round =>
    obtain ⟨k, hk, rfl, HBX, HFA⟩ := hrel
    obtain ⟨c0, c1, c2, c3, c4⟩ := five_cells (HX5.out.below HBX.out hq5)
    cases gk with
    | zero =>
      have q1 : ¬ ((k : Int) < (n5 : Int)) := by omega
      go_wp2_with fail
      refine strikeB (HO5.out.back.below HBX.out) HFF.out HS.out (Prod.eta _).symm _ ?_
      intro w6 h6 k6
      have HE := hid (HQ.out w6 _ (.inr ⟨by
        have := HFA.out
        rw [List.take_of_length_le (by have := HN5.out; omega), HE5.out] at this
        rw [HE4.out] at this
        exact this, rfl⟩) h6 ((HK5.out.trans (Kpt.below HO5.out.back HBX.out)).trans k6))
      clear h6 k6 c0 c1 c2 c3 c4
      go_wp2_with fail
      go_end0
      exact HE.out
    | succ g1 =>
      clear c0 c1 c2 c3 c4
      have q1 : (k : Int) < (n5 : Int) := by omega
      have hk5 : k < n5 := by omega
      have wk : IntKind.i64.wrap ((k : Int) + 1) = ((k + 1 : Nat) : Int) := wrapN (b := 1) (by omega)
      obtain ⟨p, hp⟩ : ∃ p, O5[k]? = some p := ⟨_, List.getElem?_eq_getElem (by have := HN5.out; omega)⟩
      have hr5 := HR5.out
      rw [HN5.out] at hr5
      obtain ⟨g5, e5', e5e, hg5, hc5⟩ := row_objs (w' := w5) hr5 (by have := HN5.out; omega)
      rw [← HN5.out] at e5e
      cases e5e
      obtain ⟨d0, d1⟩ := hc5 k p hp
      have HD0 : Hid (∀ W, Below w5.heap.size w5 W → W.cell? ⟨g5, k * 2, none⟩ = some (.string p.1)) := hid fun W hW => by rw [hW.cell (p := ⟨g5, k * 2, none⟩) hg5]; exact d0
      have HD1 : Hid (∀ W, Below w5.heap.size w5 W → W.cell? ⟨g5, k * 2 + 1, none⟩ = some (.string p.2)) := hid fun W hW => by rw [hW.cell (p := ⟨g5, k * 2 + 1, none⟩) hg5]; exact d1
      have HP := hid hp
      clear hr5 hc5 d0 d1 hp
      have d0 := HD0.out _ HBX.out
      have d1 := HD1.out _ HBX.out
      obtain ⟨a0, a1, a3, z, a2, a4, hrd, hz⟩ := rd_form p.1 p.2
      have HZ := hid hz
      have HRD := H.read_any p.1 p.2 wr (H.Lay.below (HO5.out.back.lay HL.out) HBX.out)
      rw [hrd] at HRD
      unfold H.obv at HRD
      clear hrd hz
      obtain ⟨wo, hwo⟩ : ∃ wo, wo = wr := ⟨_, rfl⟩
      subst hwo
      go_wp2_with fail
      refine HRD.mono ?_
      clear HRD d0 d1
      rintro _ w6 ⟨rfl, hb6⟩
      have HB6 := hid (HBX.out.trans (hb6.mono HBX.out.size))
      have HB7 := hid (HB6.out.trans ((boxed w6 (.cells #[.int .i64 a0, .int .i64 a1, .string a2, .int .i64 a3, .string a4] 94)).mono HB6.out.size))
      clear hb6
      go_wp2_with fail
      go_loopg [10, 11] n4 (fun gj s10 s11 wy => ∃ j : Nat, j + gj = n4 ∧ s11 = .int .i64 (j : Int) ∧ s10 = .bool (inB p (O4.take j)) ∧ Hid (Below w5.heap.size w5 wy))
      case atStart => exact ⟨0, by omega, rfl, rfl, HB7⟩
      case round =>
        obtain ⟨j, hj, rfl, rfl, HBY⟩ := hrel
        clear HB7 HB6
        cases gk with
        | zero =>
          have q2 : ¬ ((j : Int) < (n4 : Int)) := by omega
          have htk : O4.take j = O4 := List.take_of_length_le (by have := HN4.out; omega)
          rw [htk]
          rcases HZ.out with ⟨rfl, hr⟩ | ⟨rfl, hr⟩
          · by_cases hm : p ∈ O4
            · rw [inB_mem.2 hm]
              have HFA2 := hid (show ∀ p' ∈ O5.take (k + 1), H.rdOk p'.1 p'.2 = true → p' ∈ O4 from fun p' hp' hr' => by
                rcases (take_mem HP.out).1 hp' with h | h
                · exact HFA.out p' h hr'
                · rw [h]; exact hm)
              clear hm hr htk
              go_wp2_with fail
              go_roundg g1
              case measure => omega
              case rel => exact ⟨k + 1, by omega, by first | rfl | simp, HBY, HFA2⟩
            · rw [show inB p O4 = false from by
                cases h : inB p O4 with
                | true => exact absurd (inB_mem.1 h) hm
                | false => rfl]
              have HE := hid (HQ.out _ _ (.inl rfl) (HO5.out.back.below HBY.out) (HK5.out.trans (Kpt.below HO5.out.back HBY.out)))
              clear hm hr htk
              go_wp2_with fail
              refine bodyPost_ret (results_none rfl _ _ _) rfl ?_
              exact HE.out
          · have HFA2 := hid (show ∀ p' ∈ O5.take (k + 1), H.rdOk p'.1 p'.2 = true → p' ∈ O4 from fun p' hp' hr' => by
              rcases (take_mem HP.out).1 hp' with h | h
              · exact HFA.out p' h hr'
              · rw [h, hr] at hr'; cases hr')
            clear hr htk
            go_wp2_with fail
            go_roundg g1
            case measure => omega
            case rel => exact ⟨k + 1, by omega, by first | rfl | simp, HBY, HFA2⟩
        | succ g2 =>
          have q2 : (j : Int) < (n4 : Int) := by omega
          have hj4 : j < n4 := by omega
          have wj : IntKind.i64.wrap ((j : Int) + 1) = ((j + 1 : Nat) : Int) := wrapN (b := 1) (by omega)
          obtain ⟨p4, hp4⟩ : ∃ p4, O4[j]? = some p4 := ⟨_, List.getElem?_eq_getElem (by have := HN4.out; omega)⟩
          have hr4 := HR4.out
          rw [HN4.out] at hr4
          obtain ⟨g4, e4', e4e, hg4, hc4⟩ := row_objs (w' := w4) hr4 (by have := HN4.out; omega)
          rw [← HN4.out] at e4e
          cases e4e
          obtain ⟨d0, d1⟩ := hc4 j p4 hp4
          have HP4 := hid hp4
          have HJ4 : Hid (j < n4) := hid hj4
          have HK5' : Hid (k < n5) := hid hk5
          have HY0 : Hid (∀ W, Below wr.heap.size wr W → W.cell? ⟨g4, j * 2, none⟩ = some (.string p4.1)) := hid fun W hW => by rw [hW.cell (p := ⟨g4, j * 2, none⟩) (by have := HB5.out.size; have := HBY.out.size; show g4 < _; omega), HBY.out.cell (p := ⟨g4, j * 2, none⟩) (by have := HB5.out.size; show g4 < _; omega), HB5.out.cell (p := ⟨g4, j * 2, none⟩) hg4]; exact d0
          have HY1 : Hid (∀ W, Below wr.heap.size wr W → W.cell? ⟨g4, j * 2 + 1, none⟩ = some (.string p4.2)) := hid fun W hW => by rw [hW.cell (p := ⟨g4, j * 2 + 1, none⟩) (by have := HB5.out.size; have := HBY.out.size; show g4 < _; omega), HBY.out.cell (p := ⟨g4, j * 2 + 1, none⟩) (by have := HB5.out.size; show g4 < _; omega), HB5.out.cell (p := ⟨g4, j * 2 + 1, none⟩) hg4]; exact d1
          clear hr4 hc4 d0 d1 hp4
          cases hm : inB p (O4.take j) with
          | true =>
            have HMM := hid (show inB p (O4.take (j + 1)) = true from by rw [inB_succ HP4.out, hm]; rfl)
            clear hm
            go_wp2_with fail
            refine Tl.wp_mix_lit (by kernel_rfl) 12 [45, 46, 47, 48, 49, 50, 51, 52, 53, 54, 55, 56] 66 rfl (by kernel_rfl) (BelW wr) odT ((Below.refl _ _).drew)
              ⟨fun a' W' hC hF => ?_, fun a' W' hC hF => ?_, fun a' W' hC hF => ?_, fun a' W' hC hF => ?_, fun a' W' hC hF => ?_, fun a' W' hC hF => ?_, fun a' W' hC hF => ?_, fun a' W' hC hF => ?_, fun a' W' hC hF => ?_, fun a' W' hC hF => ?_, fun a' W' hC hF => ?_, fun a' W' hC hF => ?_, trivial⟩ ?_
            · exact Tl.sm_v 45 _ rfl (Tl.wanted_none rfl) hC rfl (rn_move rfl ((hF 10 (by decide +kernel)).2 (by decide)))
            · exact Tl.sm_v 46 _ rfl (Tl.wanted_none rfl) hC rfl (rn_move rfl ((hF 45 (by decide +kernel)).1 (by decide)))
            iterate 9 exact Tl.sm_skip (Tl.wanted_not rfl rfl ((hF 46 (by decide +kernel)).1 (by decide))) (fun d hd => by cases hd; trivial)
            · exact Tl.sm_v 56 _ rfl (Tl.wanted_none rfl) hC rfl (rn_pickT rfl ((hF 46 (by decide +kernel)).1 (by decide)) rfl)
            intro v wB hw hv
            have v56 : v 56 = .bool true := hv 56 (by decide)
            have HBB := hid (HBY.out.trans ((show Below wr.heap.size wr wB from hw).mono HBY.out.size))
            clear hv hw
            simp only [Tl.fill, List.drop_succ_cons, List.drop_zero, wpList]
            rw [if_pos (Tl.wanted_none rfl)]
            simp only [Act.put, List.setIfInBounds_toArray, List.set_cons_succ, List.set_cons_zero, v56]
            clear v56
            refine .inl (wp_assign (x := .tmp 56) (d := 10) (v := .bool true) ?_ ?_ ?_ ?_)
            · rfl
            · rfl
            · rfl
            simp only [Act.put, List.setIfInBounds_toArray, List.set_cons_succ, List.set_cons_zero]
            go_wp2_with fail
            go_roundg g2
            case measure => omega
            case rel => exact ⟨j + 1, by omega, by first | rfl | simp, by rw [HMM.out], HBB⟩
          | false =>
            have HMM := hid (show inB p (O4.take (j + 1)) = decide ((p4.1, p4.2) = (p.1, p.2)) from by rw [inB_succ HP4.out, hm]; rfl)
            clear hm
            go_wp2_with fail
            refine Tl.wp_mix_lit (by kernel_rfl) 12 [45, 46, 47, 48, 49, 50, 51, 52, 53, 54, 55, 56] 66 rfl (by kernel_rfl) (BelW wr) (odF false (.slice (some ⟨g4, 0, none⟩) n4 e4) (.slice (some ⟨g5, 0, none⟩) n5 e5) g4 g5 j k p4 p) ((Below.refl _ _).drew)
              ⟨fun a' W' hC hF => ?_, fun a' W' hC hF => ?_, fun a' W' hC hF => ?_, fun a' W' hC hF => ?_, fun a' W' hC hF => ?_, fun a' W' hC hF => ?_, fun a' W' hC hF => ?_, fun a' W' hC hF => ?_, fun a' W' hC hF => ?_, fun a' W' hC hF => ?_, fun a' W' hC hF => ?_, fun a' W' hC hF => ?_, trivial⟩ ?_
            · exact Tl.sm_v 45 _ rfl (Tl.wanted_none rfl) hC rfl (rn_move rfl ((hF 10 (by decide +kernel)).2 (by decide)))
            · exact Tl.sm_v 46 _ rfl (Tl.wanted_none rfl) hC rfl (rn_move rfl ((hF 45 (by decide +kernel)).1 (by decide)))
            · exact Tl.sm_v 47 _ rfl (Tl.wanted_is rfl rfl ((hF 46 (by decide +kernel)).1 (by decide))) hC rfl (rn_move rfl ((hF 5 (by decide +kernel)).2 (by decide)))
            · exact Tl.sm_v 48 _ rfl (Tl.wanted_is rfl rfl ((hF 46 (by decide +kernel)).1 (by decide))) hC rfl (rn_move rfl ((hF 11 (by decide +kernel)).2 (by decide)))
            · exact Tl.sm_v 49 _ rfl (Tl.wanted_is rfl rfl ((hF 46 (by decide +kernel)).1 (by decide))) hC rfl (rn_ix55 rfl ((hF 47 (by decide +kernel)).1 (by decide)) ((hF 48 (by decide +kernel)).1 (by decide)) HJ4.out)
            · exact Tl.sm_v 50 _ rfl (Tl.wanted_is rfl rfl ((hF 46 (by decide +kernel)).1 (by decide))) hC rfl (rn_load28 rfl ((hF 49 (by decide +kernel)).1 (by decide)) (HY0.out W' hC) (HY1.out W' hC))
            · exact Tl.sm_v 51 _ rfl (Tl.wanted_is rfl rfl ((hF 46 (by decide +kernel)).1 (by decide))) hC rfl (rn_move rfl ((hF 6 (by decide +kernel)).2 (by decide)))
            · exact Tl.sm_v 52 _ rfl (Tl.wanted_is rfl rfl ((hF 46 (by decide +kernel)).1 (by decide))) hC rfl (rn_move rfl ((hF 7 (by decide +kernel)).2 (by decide)))
            · exact Tl.sm_v 53 _ rfl (Tl.wanted_is rfl rfl ((hF 46 (by decide +kernel)).1 (by decide))) hC rfl (rn_ix55 rfl ((hF 51 (by decide +kernel)).1 (by decide)) ((hF 52 (by decide +kernel)).1 (by decide)) HK5'.out)
            · exact Tl.sm_v 54 _ rfl (Tl.wanted_is rfl rfl ((hF 46 (by decide +kernel)).1 (by decide))) hC rfl (rn_load28 rfl ((hF 53 (by decide +kernel)).1 (by decide)) (HD0.out W' (HBY.out.trans (Below.mono hC HBY.out.size))) (HD1.out W' (HBY.out.trans (Below.mono hC HBY.out.size))))
            · exact Tl.sm_v 55 _ rfl (Tl.wanted_is rfl rfl ((hF 46 (by decide +kernel)).1 (by decide))) hC rfl (rn_eql64 rfl ((hF 50 (by decide +kernel)).1 (by decide)) ((hF 54 (by decide +kernel)).1 (by decide)))
            · exact Tl.sm_v 56 _ rfl (Tl.wanted_none rfl) hC rfl (rn_pickF rfl ((hF 46 (by decide +kernel)).1 (by decide)) ((hF 55 (by decide +kernel)).1 (by decide)))
            intro v wB hw hv
            have v56 : v 56 = .bool (decide ((p4.1, p4.2) = (p.1, p.2))) := hv 56 (by decide)
            have HBB := hid (HBY.out.trans ((show Below wr.heap.size wr wB from hw).mono HBY.out.size))
            clear hv hw
            obtain ⟨nx, hnx⟩ : ∃ nx, decide ((p4.1, p4.2) = (p.1, p.2)) = nx := ⟨_, rfl⟩
            rw [hnx] at v56
            have HNX := hid (HMM.out.trans hnx)
            clear hnx HMM
            simp only [Tl.fill, List.drop_succ_cons, List.drop_zero, wpList]
            rw [if_pos (Tl.wanted_none rfl)]
            simp only [Act.put, List.setIfInBounds_toArray, List.set_cons_succ, List.set_cons_zero, v56]
            clear v56
            refine .inl (wp_assign (x := .tmp 56) (d := 10) (v := .bool nx) ?_ ?_ ?_ ?_)
            · rfl
            · rfl
            · rfl
            simp only [Act.put, List.setIfInBounds_toArray, List.set_cons_succ, List.set_cons_zero]
            go_wp2_with fail
            go_roundg g2
            case measure => omega
            case rel => exact ⟨j + 1, by omega, by first | rfl | simp, by rw [HNX.out], HBB⟩
end Go.Proofs.YtffhobkoagnhhaaGreatDoor
/- StripeKept: what its walk needs: the list of what was, worlds that faults left, single operations. -/
namespace Go.Proofs.YtffhobkoagnhhaaGreatDoor
open Go.RowKit Go.Maps
open W
set_option linter.unusedVariables false
/-- the list of what was: the first k are filled in -/
def wasL (f : Nat → ByteArray) (n k : Nat) : Array Value := ((List.range n).map fun j => Value.string (if j < k then f j else ⟨#[]⟩)).toArray
theorem wasL_get (f : Nat → ByteArray) (n k j : Nat) (hj : j < n) : (wasL f n k)[j]? = some (.string (if j < k then f j else ⟨#[]⟩)) := by
  unfold wasL
  rw [List.getElem?_toArray, List.getElem?_map, List.getElem?_range hj]
  rfl
theorem wasL_size (f : Nat → ByteArray) (n k : Nat) : (wasL f n k).size = n := by simp [wasL]
theorem wasL_zero (f : Nat → ByteArray) (n : Nat) : Array.replicate n (Value.string ⟨#[]⟩) = wasL f n 0 := by
  apply Array.ext_getElem?
  intro i
  by_cases hi : i < n
  · rw [wasL_get f n 0 i hi, if_neg (Nat.not_lt_zero i), Array.getElem?_replicate, if_pos hi]
  · rw [Array.getElem?_eq_none (by simp; omega), Array.getElem?_eq_none (by rw [wasL_size]; omega)]
theorem wasL_set (f : Nat → ByteArray) (n k : Nat) (hk : k < n) : (wasL f n k).setIfInBounds k (.string (f k)) = wasL f n (k + 1) := by
  apply Array.ext_getElem?
  intro i
  by_cases hi : i < n
  · rw [wasL_get f n (k + 1) i hi, Array.getElem?_setIfInBounds, wasL_size, wasL_get f n k i hi]
    by_cases e : k = i
    · subst e
      rw [if_pos rfl, if_pos hi, if_pos (by omega)]
    · rw [if_neg e]
      by_cases h1 : i < k
      · rw [if_pos h1, if_pos (by omega)]
      · rw [if_neg h1, if_neg (by omega)]
  · rw [Array.getElem?_eq_none (by simp [wasL_size]; omega), Array.getElem?_eq_none (by rw [wasL_size]; omega)]
theorem makes_strs (n : Nat) (hn : n ≤ 1000000) (w : World) : (Instr.makeSlice 62 (.int .i64 (n : Int)) (.int .i64 (n : Int))).run Tryz.prog w = .ok (.slice (some ⟨w.heap.size, 0, none⟩) n n) (w.alloc (.cells (Array.replicate n (.string ⟨#[]⟩)) 9)) := by
  obtain ⟨i, hi⟩ : ∃ i, Tryz.prog.info? 9 = some i := by
    cases h : Tryz.prog.info? 9 with
    | none => have : (Tryz.prog.info? 9).isSome = true := by kernel_rfl
              rw [h] at this; cases this
    | some i => exact ⟨i, rfl⟩
  have hz : (Tryz.prog.info? 9).map (fun i => (i.zero, i.size, i.bytes)) = some (some (.string ⟨#[]⟩), 1, 16) := by kernel_rfl
  rw [hi] at hz
  simp only [Option.map_some, Option.some.injEq, Prod.mk.injEq] at hz
  obtain ⟨h1, h2, h3⟩ := hz
  rw [run_make w 62 9 i (.string ⟨#[]⟩) Tryz.underlying62 hi h1 .i64 .i64 (n : Int) (n : Int) (by omega) (Int.le_refl _) (by rw [h3]; omega) (by omega)]
  have e : madeCells (Value.string ⟨#[]⟩).cells (n * 1) = Array.replicate n (.string ⟨#[]⟩) := by
    apply Array.toList_inj.1
    have hz : (Value.string ⟨#[]⟩).cells = #[.string ⟨#[]⟩] := rfl
    rw [hz, Nat.mul_one]
    apply List.ext_getElem
    · simp [madeCells]
    · intro k h1 h2
      simp [madeCells, Nat.mod_one]
  rw [h2, Int.toNat_natCast, e]
section
variable {ev : Operand → Value} {o : Oper} {w : World} {x y z : Operand}
theorem ens25 (args : Array Value) : (callFunc 25 args).run Tryz.prog w = .ok (.enter 25 args) w := by kernel_rfl
theorem ens28 (args : Array Value) : (callFunc 28 args).run Tryz.prog w = .ok (.enter 28 args) w := by kernel_rfl
theorem rn_neq9 {u : ByteArray} (ho : o.op = .binOp .neq 9 x y 9) (hx : ev x = .string u) (hy : ev y = .string u) : (execOp ev o).run Tryz.prog w = .ok (.value (.bool false)) w := by
  simp [execOp, ho, hx, hy, go_sem]
theorem rn_neq3s {u : Int} (ho : o.op = .binOp .neq 3 x y 3) (hx : ev x = .int .i64 u) (hy : ev y = .int .i64 u) : (execOp ev o).run Tryz.prog w = .ok (.value (.bool false)) w := by
  simp [execOp, ho, hx, hy, go_sem]
theorem rn_mul3 {u v r : Int} (ho : o.op = .binOp .mul 3 x y 3) (hx : ev x = .int .i64 u) (hy : ev y = .int .i64 v) (hz : IntKind.i64.wrap (u * v) = r) : (execOp ev o).run Tryz.prog w = .ok (.value (.int .i64 r)) w := by
  subst hz
  simp [execOp, ho, hx, hy, go_sem]
theorem rn_len55 {a : Option Addr} {n c : Nat} (ho : o.op = .call { callee := .builtin .len, args := #[x], argTypes := #[55] }) (hx : ev x = .slice a n c) : (execOp ev o).run Tryz.prog w = .ok (.value (.int .i64 (n : Int))) w := by
  simp [execOp, ho, hx, go_sem]
theorem rn_eql3 {u v : Int} {r : Bool} (ho : o.op = .binOp .eql 3 x y 3) (hx : ev x = .int .i64 u) (hy : ev y = .int .i64 v) (hr : decide (u = v) = r) : (execOp ev o).run Tryz.prog w = .ok (.value (.bool r)) w := by
  subst hr
  have q : (u == v) = decide (u = v) := by by_cases h : u = v <;> simp [h]
  simp [execOp, ho, hx, hy, go_sem, q]
theorem rn_ix62 {g n c i : Nat} (ho : o.op = .indexAddr 62 x y) (hx : ev x = .slice (some ⟨g, 0, none⟩) n c) (hy : ev y = .int .i64 (i : Int)) (hi : i < n) : (execOp ev o).run Tryz.prog w = .ok (.value (.pointer (some ⟨g, i, none⟩))) w := by
  have h1 : ¬ ((i : Int) < 0) := by omega
  have h2 : ¬ ((n : Int) ≤ (i : Int)) := by omega
  simp [execOp, ho, hx, hy, go_sem, hi]
end
theorem did2 {c1 c2 : Nat} {X0 X1 X2 : World → Prop} {l : Array Bool} {W : World} (hne : c1 ≠ c2) (h2 : l.getD c2 false = false) (hs : c1 < l.size) (h : X1 W) : Tl.Two c1 c2 X0 X1 X2 (l.setIfInBounds c1 true) W := by
  unfold Tl.Two
  have e1 : (l.setIfInBounds c1 true).getD c1 false = true := by
    rw [Array.getD_eq_getD_getElem?, Array.getElem?_setIfInBounds, if_pos rfl, if_pos hs]; rfl
  have e2 : (l.setIfInBounds c1 true).getD c2 false = false := by
    rw [Array.getD_eq_getD_getElem?, Array.getElem?_setIfInBounds, if_neg hne, ← Array.getD_eq_getD_getElem?]; exact h2
  rw [e1, e2, if_pos rfl, if_neg (by decide)]
  exact h
def r9F (b q : Nat) (K N : Int) (dg s : ByteArray) (i : Nat) (v : Value) (_ : World) : Prop := match i with
  | 67 => v = .string dg | 68 => v = .string s | 69 => v = .string dg | 70 => v = .bool false | 71 => v = .bool false
  | 72 => v = .pointer (some ⟨b, 0, none⟩) | 73 => v = .agg #[.int .i64 K, .int .i64 N] | 74 => v = .string s | 75 => v = .int .i64 (2 * N)
  | 76 => v = .pointer (some ⟨q, 1, none⟩) | 77 => v = .int .i64 N | 78 => v = .int .i64 (2 * N) | 79 => v = .bool false | 80 => v = .bool false
  | _ => True
def upF (b k : Nat) (up : Bool) (i : Nat) (v : Value) (_ : World) : Prop := match i with
  | 139 => v = .pointer (some ⟨b, 0, none⟩) | 140 => v = .int .i64 (k : Int) | 141 => v = .bool up | 142 => v = .bool up
  | 146 => v = .bool false | 147 => v = .bool false | 157 => v = .bool false
  | _ => True
def upF2 (b k : Nat) (vo : Value) (m : Nat) (i : Nat) (v : Value) (_ : World) : Prop := match i with
  | 139 => v = .pointer (some ⟨b, 0, none⟩) | 140 => v = .int .i64 (k : Int) | 141 => v = .bool true | 142 => v = .bool true
  | 143 => v = vo | 144 => v = .int .i64 (m : Int) | 145 => v = .bool false | 146 => v = .bool false | 147 => v = .bool false | 157 => v = .bool false
  | _ => True
def upF3 (b k : Nat) (vo vw : Value) (g gw : Nat) (d f : ByteArray) (i : Nat) (v : Value) (_ : World) : Prop := match i with
  | 139 => v = .pointer (some ⟨b, 0, none⟩) | 140 => v = .int .i64 (k : Int) | 141 => v = .bool true | 142 => v = .bool true
  | 143 => v = vo | 144 => v = .int .i64 1 | 145 => v = .bool true | 146 => v = .bool true | 147 => v = .bool true
  | 148 => v = vo | 149 => v = .pointer (some ⟨g, 0, none⟩) | 150 => v = .pointer (some ⟨g, 1, none⟩) | 151 => v = .string d
  | 152 => v = vw | 153 => v = .int .i64 (k : Int) | 154 => v = .pointer (some ⟨gw, k, none⟩) | 155 => v = .string f | 156 => v = .bool (decide (d = f)) | 157 => v = .bool (decide (d = f))
  | _ => True
variable {w0 w w' : World} {b : Nat} {V V' : Wd} {T : Nat → Prop} {K N : Int} {bl : List Nat} {n : Nat}
abbrev LeftW (K N : Int) (bl : List Nat) (n : Nat) (V : Wd) : Prop := WI n (Left K N bl) V
theorem LeftW.of (h : WI n (fun m s => s = held K N bl m) V) (hm : C.Mx.mayC K N = true) (hb : bl.length ≤ 32768) (hN : N = (n : Int)) : LeftW K N bl n V := ⟨h.lit, h.len, fun m x hx => by
  rw [h.st m x hx]
  exact Left.held hm hb (by have := (List.getElem?_eq_some_iff.1 hx).1; have := h.len; omega), h.calls, h.left⟩
theorem LeftW.crash (h : LeftW K N bl n V) (sv : List Sv) : LeftW K N bl n (crashW V sv) := ⟨⟨rfl, rfl⟩, by rw [crashW_len]; exact h.len, fun m y hy => by
  obtain ⟨x, hx, e⟩ := crashW_at hy
  rw [e, (h.st m x hx).crash]
  exact h.st m x hx, h.calls, rfl⟩
theorem LeftW.fit (h : LeftW K N bl n V) : ∀ x ∈ V.l, Fit 100 x.st := h.all fun m s _ hs => hs.fit
theorem LeftW.fit2 (h : LeftW K N bl n V) : ∀ x ∈ V.l, Fit 100 x.st ∧ (x.st.writes ≠ [] → x.st.live = true) := h.all (R := fun s => Fit 100 s ∧ (s.writes ≠ [] → s.live = true)) fun m s _ hs => ⟨hs.fit, fun hw => absurd hs.wr hw⟩
theorem LeftW.strike (h : LeftW K N bl n V) {fk ft fn fa fc : Int} (hn : fn < 9223372036854775808) (hv : V' = V ∨ (Fair V fk ft fn fa fc ∧ V' = (strikeW V fk ft fn fa fc).2)) : LeftW K N bl n V' := by
  rcases hv with rfl | ⟨hf, rfl⟩
  · exact h
  · unfold Fair at hf
    unfold strikeW at hf ⊢
    by_cases ht : 0 ≤ ft ∧ ft < (V.l.length : Int)
    · rw [if_pos ht] at hf ⊢
      obtain ⟨x, hx⟩ : ∃ x, V.l[ft.toNat]? = some x := ⟨_, List.getElem?_eq_getElem (by omega)⟩
      have hi := (List.getElem?_eq_some_iff.1 hx).1
      rw [hx] at hf ⊢
      simp only at hf ⊢
      have hs := (h.st _ x hx).strike fk fn fa fc hn (by
        unfold objsW at hf
        simp only [List.length_set] at hf
        rw [if_pos ht, if_pos ht, hx, List.getElem?_set_self hi] at hf
        exact hf)
      refine ⟨h.lit, by show (V.l.set _ _).length = n; rw [List.length_set]; exact h.len, fun m y hy => ?_, h.calls, h.left⟩
      have hy' : (V.l.set ft.toNat _)[m]? = some y := hy
      by_cases e : ft.toNat = m
      · subst e
        rw [List.getElem?_set_self hi] at hy'
        cases hy'
        exact hs
      · rw [List.getElem?_set_ne e] at hy'
        exact h.st m y hy'
    · rw [if_neg ht]
      exact h
theorem objs_at {k : Nat} {x : Kp} (hx : V.l[k]? = some x) : objsW V (k : Int) = x.st.seen := by
  have hi := (List.getElem?_eq_some_iff.1 hx).1
  unfold objsW
  rw [if_pos (by omega), Int.toNat_natCast, hx]
theorem up_at {k : Nat} {x : Kp} (hx : V.l[k]? = some x) : upW V (k : Int) = !x.st.down := by
  have hi := (List.getElem?_eq_some_iff.1 hx).1
  unfold upW
  rw [if_pos (by omega), Int.toNat_natCast, hx]
theorem sumS (w : World) (hl : H.Lay w) {s : ByteArray} (hs : s.size ≤ 2000) {bl : List Nat} (hb : C.ofBs bl = s) (hlt : ∀ x ∈ bl, x < 256) : Calls Tryz.prog 9 #[.string s] w fun e w' => e = .returned (.string (dig bl)) ∧ Below w.heap.size w w' := by
  have := H.sum_any w hl.ht s (by omega)
  rw [show H.ofBs (H.Sha.digest (H.bs s)) = dig bl from by unfold dig; rw [← hb, show H.bs (C.ofBs bl) = bl from H.bs_ofBs bl hlt]] at this
  exact this
/-- the list of faults, where it can be read -/
theorem RdF.at {v : Value} {l : List Flt} (h : RdF w v l) (hb : Below w.heap.size w w') {k : Nat} {x : Flt} (hx : l[k]? = some x) : ∃ g o c, v = .slice (some ⟨g, o, none⟩) l.length c ∧ FltOk x ∧ ∀ (i : Nat) (u : Value), (fcells x)[i]? = some u → w'.cell? ⟨g, o + k * 5 + i, none⟩ = some u := by
  rcases h.1 with ⟨A, c, rfl, e⟩ | ⟨g, o, cap, _, rfl, hg, hc⟩
  · rw [e] at hx; simp at hx
  · exact ⟨g, o, cap, rfl, h.2 x (List.mem_of_getElem? hx), fun i u hu => by rw [hb.cell (p := ⟨g, o + k * 5 + i, none⟩) hg]; exact hc k x hx i u hu⟩
end Go.Proofs.YtffhobkoagnhhaaGreatDoor
