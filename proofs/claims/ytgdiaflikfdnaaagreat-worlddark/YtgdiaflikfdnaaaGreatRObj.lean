/- The document's Objects: what is seen. -/
import Derived.Test.YtgdiaflikfdnaaaGreatRPut
namespace Go.Proofs.YtgdiaflikfdnaaaGreat
open Go.RowKit Go.Maps
def stepR (M : List Ob) (q : Rw) : List Ob := if q.del then drop q.name M else put (q.name, q.data) M
def seenR (r : Rf) : List Ob := r.writes.foldl stepR r.good
def seenK (r : Rf) (k : Nat) : List Ob := (r.writes.take k).foldl stepR r.good
theorem seenK_succ {r : Rf} {k : Nat} {q : Rw} (h : r.writes[k]? = some q) : seenK r (k + 1) = stepR (seenK r k) q := by
  unfold seenK
  rw [List.take_add_one, h, List.foldl_append]
  rfl
theorem stepR_len (M : List Ob) (q : Rw) : (stepR M q).length ≤ M.length + 1 := by
  unfold stepR
  split
  · exact Nat.le_succ_of_le (drop_le _ _)
  · exact length_put_le _ _
theorem seenK_len (r : Rf) : ∀ k, (seenK r k).length ≤ r.good.length + k
  | 0 => Nat.le_refl _
  | k + 1 => by
    cases h : r.writes[k]? with
    | none =>
      have e : seenK r (k + 1) = seenK r k := by
        have hl := List.getElem?_eq_none_iff.1 h
        unfold seenK
        rw [List.take_of_length_le (by omega), List.take_of_length_le hl]
      rw [e]
      exact Nat.le_succ_of_le (seenK_len r k)
    | some q =>
      rw [seenK_succ h]
      have := stepR_len (seenK r k) q
      have := seenK_len r k
      omega
theorem rflat_get : ∀ (ws : List Rw) (k : Nat) (q : Rw), ws[k]? = some q → ∀ (j : Nat) (u : Value), (rcells q)[j]? = some u → (ws.flatMap rcells)[k * 3 + j]? = some u
  | [], k, q, h => by simp at h
  | p :: r, 0, q, h => fun j u hu => by
    simp at h; subst h
    have hj : j < (rcells p).length := (List.getElem?_eq_some_iff.1 hu).1
    rw [List.flatMap_cons, Nat.zero_mul, Nat.zero_add, List.getElem?_append_left hj]; exact hu
  | p :: r, k + 1, q, h => fun j u hu => by
    have hr := rflat_get r k q (by simpa using h) j u hu
    have hl : (rcells p).length = 3 := rfl
    rw [List.flatMap_cons, List.getElem?_append_right (by omega), hl, show (k + 1) * 3 + j - 3 = k * 3 + j by omega]
    exact hr
theorem rw_cells {w : World} {base : Nat} {v : Value} {ws : List Rw} (h : w.ownsRow base 117 3 v ws.length (ws.flatMap rcells)) {k : Nat} {q : Rw} (hq : ws[k]? = some q) : ∃ g cap, v = .slice (some ⟨g, 0, none⟩) ws.length cap ∧ w.cell? ⟨g, k * 3, none⟩ = some (.string q.name) ∧ w.cell? ⟨g, k * 3 + 1, none⟩ = some (.string q.data) ∧ w.cell? ⟨g, k * 3 + 2, none⟩ = some (.bool q.del) := by
  rcases row_form h with ⟨_, e, _⟩ | ⟨g, cap, e, hg, _, _, _, hc⟩
  · have := (List.getElem?_eq_some_iff.1 hq).1; omega
  · exact ⟨g, cap, e, hc _ _ (rflat_get ws k q hq 0 _ rfl), hc _ _ (rflat_get ws k q hq 1 _ rfl), hc _ _ (rflat_get ws k q hq 2 _ rfl)⟩
theorem part_row {W : World} {B L : Nat} {v : Value} {D : List Ob} (h : W.ownsRow B 35 2 v L (objCells D)) (hL : D.length = L) : Part W v L (objCells D) := by
  refine ⟨row_slice h, fun hp => ?_, by rw [objCells_length, hL], objCells_plain _⟩
  rcases row_form h with ⟨_, e, _⟩ | ⟨g, cap, e, hg, _, _, _, hc⟩
  · omega
  · exact ⟨g, 0, cap, e, hg, fun j u hu => by rw [Nat.zero_add]; exact hc j u hu⟩
theorem wpList_app45 {ops : Array Oper} {rest : List Oper} {o : Oper} {a : Act} {w w' : World} {Q : Exit → Act → World → Prop} {u v r : Value} (hgd : o.guard = none) (s x : Operand) (ho : o.op = .call { callee := .builtin .append, args := #[s, x], argTypes := #[55, 55] }) (hs : a.eval s = u) (hx : a.eval x = v) (hr : (Builtin.append_ #[55, 55] o.type #[u, v]).run Tryz.prog w = .ok r w') (h : wpList Tryz.prog ops Q rest (a.put o.dst r) w') : wpList Tryz.prog ops Q (o :: rest) a w := by
  refine wpList_plain hgd fun K hK => ?_
  unfold Oper.wp
  rw [rn_app45 ho hs hx hr]
  exact hK _ _ h
set_option maxHeartbeats 2000000 in
set_option maxRecDepth 20000 in
theorem refObjects_any {w : World} {S : Nat → Prop} {b : Nat} {r : Rf} (h : IsRf w S b r) (hN : r.good.length + r.writes.length ≤ 1000000) : Calls Tryz.prog 47 #[ptr b] w fun e w' => ∃ v, e = .returned v ∧ w'.ownsRow w.heap.size 35 2 v (seenR r).length (objCells (seenR r)) ∧ Below w.heap.size w w' := by
  have HI := hid h
  obtain ⟨gv, wv, ⟨c0, c1, c2, c3, c4⟩, hg, hwr, _⟩ := h.cells
  obtain ⟨sa, sc, rfl⟩ := row_slice hwr
  obtain ⟨g4, cap4, W4, s1, s2, s3, s4, s5⟩ := app_part (ty := 55) (W0 := w) (W := w.alloc (.cells #[] 35)) rfl (rowz_nil w (Nat.le_refl _)) (part_row hg rfl) (boxed w _) (by omega)
  have k0 : (w.alloc (.cells #[] 35)).cell? ⟨b, 0, none⟩ = some gv := by
    have hbl : b < w.heap.size := by obtain ⟨_, _, h1, _⟩ := h; exact h1.lt
    rw [(boxed w (.cells #[] 35)).cell (p := ⟨b, 0, none⟩) hbl]; exact c0
  have HB4 := hid (below_grown (boxed w (.cells #[] 35)) s3 (Nat.le_refl _) (by simp))
  rw [Nat.zero_add, List.nil_append] at s2
  rw [Nat.zero_add] at s1
  have HR4 := hid s2.1
  have HC1 := hid c1
  have HBl := hid (show b < w.heap.size from by obtain ⟨_, _, h1, _⟩ := h; exact h1.lt)
  clear h hg hwr c0 c1 c2 c3 c4 s2 s3 s4 s5
  unfold ptr at *
  go_enter Tryz.func47, Tryz.ntmps47
  go_wp2_with (at_builtin; refine wpList_app45 rfl _ _ rfl rfl rfl s1 ?_)
  clear s1 k0
  go_loopg [3, 4] r.writes.length (fun gk s3 s4 wx => ∃ k : Nat, k + gk = r.writes.length ∧ s4 = .int .i64 (k : Int) ∧ wx.ownsRow w.heap.size 35 2 s3 (seenK r k).length (objCells (seenK r k)) ∧ Below w.heap.size w wx)
  case atStart => exact ⟨0, by omega, rfl, HR4.out, HB4.out⟩
  case round =>
    clear HR4 HB4
    obtain ⟨k, hk, rfl, hrow, hbw⟩ := hrel
    have HRow := hid hrow
    have HB := hid hbw
    obtain ⟨gv', wv', ⟨c0, c1, c2, c3, c4⟩, _, hwr, _⟩ := (HI.out.below hbw).cells
    have e5 : wv' = .slice sa r.writes.length sc := by
      have h5 := HC1.out
      rw [hbw.cell (p := ⟨b, 1, none⟩) HBl.out, h5] at c1
      exact (Option.some.inj c1).symm
    subst e5
    have HW := hid hwr
    clear hrow hbw hwr c0 c2 c3 c4
    cases gk with
    | zero =>
      have q1 : ¬ ((k : Int) < (r.writes.length : Int)) := by omega
      have HK := hid (show seenK r k = seenR r from by unfold seenK seenR; rw [List.take_of_length_le (by omega)])
      go_wp2_with fail
      go_ret
      refine ⟨u3, rfl, ?_, HB.out⟩
      have := HRow.out
      rwa [HK.out] at this
    | succ g1 =>
      have q1 : (k : Int) < (r.writes.length : Int) := by omega
      obtain ⟨q, hq⟩ : ∃ q, r.writes[k]? = some q := ⟨_, List.getElem?_eq_getElem (by omega)⟩
      obtain ⟨gw, cw, ew, d0, d1, d2⟩ := rw_cells HW.out hq
      cases ew
      have hss := seenK_succ hq
      have hsl := seenK_len r k
      clear hq
      cases hdl : q.del with
      | true =>
        rw [hdl] at d2
        have HSS := hid (show seenK r (k + 1) = drop q.name (seenK r k) from by rw [hss]; unfold stepR; rw [hdl]; rfl)
        clear hdl hss
        go_wp2_with fail
        refine (refDrop_any HRow.out (by omega) q.name).mono ?_
        clear d0 d1 d2
        rintro x w5 ⟨v5, rfl, hr5, hb5⟩
        rw [← HSS.out] at hr5
        have HR5 := hid (row_base hr5 (show w.heap.size ≤ wr.heap.size from HB.out.size))
        have HB5 := hid (HB.out.trans (hb5.mono HB.out.size))
        clear hr5 hb5
        go_wp2_with fail
        go_roundg g1
        case measure => omega
        case rel => exact ⟨k + 1, by omega, by first | rfl | simp, HR5.out, HB5.out⟩
      | false =>
        rw [hdl] at d2
        have HSS := hid (show seenK r (k + 1) = put (q.name, q.data) (seenK r k) from by rw [hss]; unfold stepR; rw [hdl]; rfl)
        clear hdl hss
        go_wp2_with fail
        refine (refPut_any HRow.out (by omega) q.name q.data).mono ?_
        clear d0 d1 d2
        rintro x w5 ⟨v5, rfl, hr5, hb5⟩
        rw [← HSS.out] at hr5
        have HR5 := hid (row_base hr5 (show w.heap.size ≤ wr.heap.size from HB.out.size))
        have HB5 := hid (HB.out.trans (hb5.mono HB.out.size))
        clear hr5 hb5
        go_wp2_with fail
        go_roundg g1
        case measure => omega
        case rel => exact ⟨k + 1, by omega, by first | rfl | simp, HR5.out, HB5.out⟩
end Go.Proofs.YtgdiaflikfdnaaaGreat
