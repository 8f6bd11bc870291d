/- The document's Mul: what it tells, and how it is refused. -/
import Derived.Test.YtnihohcdamhidaaMul
namespace Go.Proofs.Ytnihohcdamhidaa
open Go.RowKit
def mrow (b : List (List Nat)) (r : List Nat) : List Nat := (List.range (b.getD 0 []).length).map fun j => dot r (col b j)
theorem mrow_get (b : List (List Nat)) (r : List Nat) (j : Nat) (hj : j < (b.getD 0 []).length) : (mrow b r).getD j 0 = dot r (col b j) := by
  rw [List.getD_eq_getElem?_getD]
  simp only [mrow, List.getElem?_map, List.getElem?_range hj]; rfl
theorem Owns.mono {e : TypeId} {base base' : Nat} {v : Value} {xs : List Value} {w : World} (h : Owns e base v xs w) (hb : base' ≤ base) : Owns e base' v xs w := by
  obtain ⟨h1, h2⟩ := h
  refine ⟨h1, h2.imp id ?_⟩
  rintro ⟨g, cap, cur, hv, hg, h3⟩
  exact ⟨g, cap, cur, hv, Nat.le_trans hb hg, h3⟩
theorem mrow_length (b : List (List Nat)) (r : List Nat) : (mrow b r).length = (b.getD 0 []).length := by simp [mrow]
theorem mrow_lt (b : List (List Nat)) (r : List Nat) : ∀ x ∈ mrow b r, x < 256 := by
  intro x hx
  simp only [mrow, List.mem_map] at hx
  obtain ⟨j, _, rfl⟩ := hx
  exact dotTo_lt _ _ _
theorem col_get (b : List (List Nat)) (j i : Nat) (hi : i < b.length) : (col b j).getD i 0 = (b.getD i []).getD j 0 := by
  simp [col, List.getD_eq_getElem?_getD, hi]
theorem mulM_get (a b : List (List Nat)) (k : Nat) (hk : k < a.length) : (mulM a b).getD k [] = mrow b (a.getD k []) := by
  simp [mulM, mrow, List.getD_eq_getElem?_getD, hk]
set_option maxRecDepth 20000 in
set_option maxHeartbeats 1000000 in
theorem refMul_t (va vb : Value) (a b : List (List Nat)) (w : World) (h1 : Mat w va a) (h2 : Mat w vb b) (ha : mayM a = true) (hb : mayM b = true) (hc : (a.getD 0 []).length = b.length) :
    Calls Try.prog 19 #[va, vb] w fun e w' => ∃ r, e = .returned (.tuple #[r, .int .i64 0]) ∧ Mat w' r (mulM a b) ∧ Below w.heap.size w w' := by
  have hMa := h1
  have hMb := h2
  obtain ⟨f1, f2, f3, f4, f5⟩ := mayM_facts ha
  obtain ⟨g1, g2, g3, g4, g5⟩ := mayM_facts hb
  obtain ⟨g, o, cap, rfl, hg, hrows⟩ := h1.may ha
  obtain ⟨g0, o0, c0, hg0, k0, _⟩ := hrows 0 (by omega)
  obtain ⟨gb, ob, capb, rfl, hgb, hrowsb⟩ := h2.may hb
  obtain ⟨gb0, ob0, cb0, hgb0, kb0, _⟩ := hrowsb 0 (by omega)
  simp only [Nat.add_zero] at k0 kb0
  have HL : Hid ((mulM a b).length = a.length) := mulM_length a b
  have HT : Hid (∀ k, k < a.length → (mulM a b).take k ++ [mrow b (a.getD k [])] = (mulM a b).take (k + 1)) := fun k hk => by
    rw [← mulM_get a b k hk]; exact take_getD _ _ _ (by rw [mulM_length]; exact hk)
  have HZ : Hid (mulM a b = (mulM a b).take a.length) := by unfold Hid; rw [List.take_of_length_le]; rw [mulM_length]; exact Nat.le_refl _
  have HM : Hid (∀ k, k < a.length → ((mulM a b).getD k []).length = (b.getD 0 []).length) := fun k hk => mulM_row_length a b k hk
  have Hd : Hid (∀ k j, k < a.length → j < (b.getD 0 []).length → (mrow b (a.getD k [])).take j ++ [dotTo (a.getD k []) (col b j) b.length] = (mrow b (a.getD k [])).take (j + 1)) := fun k j hk hj => by
    have : dotTo (a.getD k []) (col b j) b.length = (mrow b (a.getD k [])).getD j 0 := by rw [mrow_get _ _ _ hj]; unfold dot; rw [f5 k hk, hc]
    rw [this]; exact take_getD _ _ _ (by rw [mrow_length]; exact hj)
  have HW : Hid (∀ r, mrow b r = (mrow b r).take (b.getD 0 []).length) := fun r => by rw [List.take_of_length_le]; rw [mrow_length]; exact Nat.le_refl _
  have hl12 : Hid (∀ r k, ((mrow b r).take k).length ≤ 1000000) := fun r k => by rw [List.length_take, mrow_length]; omega
  have hl13 : Hid (∀ k, ((mulM a b).take k).length ≤ 1000000) := fun k => by rw [List.length_take, mulM_length]; omega
  have hcg : Hid (∀ j i, i < b.length → (col b j).getD i 0 = (b.getD i []).getD j 0) := fun j i hi => col_get b j i hi
  rw [hc] at k0 hrows
  generalize hnb : b.length = nb at *
  generalize hcb : (b.getD 0 []).length = cb at *
  generalize hna : a.length = n at *
  clear f5 g5 hc h1 h2
  have bn : (0 : Int) < (n : Int) := by omega
  have bnb : (0 : Int) < (nb : Int) := by omega
  have ecc : ((nb : Int) != (nb : Int)) = false := by simp
  go_enter Try.func19, Try.ntmps19
  go_wp2_with fail
  refine (refMay_any _ a w hMa).mono ?_
  rintro e w1 ⟨rfl, b1⟩
  rw [ha]
  go_wp2_with fail
  refine (refMay_any _ b w1 (hMb.below b1)).mono ?_
  rintro e w2 ⟨rfl, b2'⟩
  have b2 := belowCall b1 b2'
  rw [hb]
  have k0' := cell_below b2 hg k0
  go_wp2_with fail
  clear k0 k0' hMa hMb b2' b1
  go_loopw [6, 7] (fun vo vi wr => ∃ k : Nat, k ≤ n ∧ vi = .int .i64 (k : Int) ∧ Hid (OutRows w.heap.size wr vo ((mulM a b).take k)) ∧ Below w.heap.size w wr) (fun _ vi _ => n - (intOf vi).toNat)
  case atStart => exact ⟨0, by omega, rfl, by simpa [Hid] using OutRows.nil _ _, b2⟩
  case round =>
    obtain ⟨k, hk, rfl, ho, hbl⟩ := hrel
    obtain ⟨wo, hwo⟩ : ∃ wo, wo = wr := ⟨_, rfl⟩
    subst hwo
    clear b2
    by_cases hlt : k < n
    · obtain ⟨gr, q, cr, hgr, kr, hcells⟩ := hrows k hlt
      have kr1 : Hid (∀ W, Below wo.heap.size wo W → W.cell? ⟨g, o + k, none⟩ = some (.slice (some ⟨gr, q, none⟩) nb cr) ∧ W.cell? ⟨gb, ob, none⟩ = some (.slice (some ⟨gb0, ob0, none⟩) cb cb0)) := fun W hW => ⟨cell_below (belowCall hbl hW) hg kr, cell_below (belowCall hbl hW) hgb kb0⟩
      have kr2 : Hid (∀ W, Below wo.heap.size wo W → ∀ i, i < nb → W.cell? ⟨gr, q + i, none⟩ = some (.int .u8 (((a.getD k []).getD i 0 : Nat) : Int))) := fun W hW i hi => cell_below (belowCall hbl hW) hgr (hcells i hi).1
      have d0 : (k : Int) < (n : Int) := by omega
      generalize hB : wo.heap.size = WB at *
      go_wp2_with fail
      go_loopw [8, 9] (fun vr vj W => ∃ j : Nat, j ≤ cb ∧ vj = .int .i64 (j : Int) ∧ Hid (Owns 5 WB vr (U8s ((mrow b (a.getD k [])).take j)).toList W) ∧ Below WB wo W) (fun _ vj _ => cb - (intOf vj).toNat)
      case atStart => exact ⟨0, by omega, rfl, Owns.nil 5 _ _, by rw [← hB]; exact Below.refl _ _⟩
      case round =>
        obtain ⟨j, hj, rfl, hr, hbW⟩ := hrel
        obtain ⟨wm, hwm⟩ : ∃ wm, wm = wr := ⟨_, rfl⟩
        subst hwm
        have kb := (kr1.out _ hbW).2
        by_cases hjl : j < cb
        · have d1 : (j : Int) < (cb : Int) := by omega
          generalize hBM : wm.heap.size = WM at *
          have hWM : WB ≤ WM := by rw [← hBM]; rw [← hB]; exact hbW.size
          go_wp2_with fail
          go_loopw [10, 11] (fun vx vk W => ∃ i : Nat, i ≤ nb ∧ vk = .int .i64 (i : Int) ∧ vx = .int .u8 ((dotTo (a.getD k []) (col b j) i : Nat) : Int) ∧ Below WM wm W) (fun _ vk _ => nb - (intOf vk).toNat)
          case atStart => exact ⟨0, by omega, rfl, rfl, by rw [← hBM]; exact Below.refl _ _⟩
          case round =>
            obtain ⟨i, hi, rfl, rfl, hbV⟩ := hrel
            have hbV2 : Below WB wo wr := hbW.trans (hbV.mono hWM)
            by_cases hil : i < nb
            · have q1 := (kr1.out _ hbV2).1
              have q2 := kr2.out _ hbV2 i hil
              obtain ⟨gx, qx, cx, hgx, kx, hcx⟩ := hrowsb i hil
              have q3 := cell_below (belowCall hbl (by rw [hB]; exact hbV2)) hgb kx
              have q4 := cell_below (belowCall hbl (by rw [hB]; exact hbV2)) hgx (hcx j hjl).1
              have p1 := (hcells i hil).2
              have p2 := (hcx j hjl).2
              have p3 := dotTo_lt (a.getD k []) (col b j) i
              have HN : Hid (dotTo (a.getD k []) (col b j) (i + 1) = dotTo (a.getD k []) (col b j) i ^^^ Fld.mul ((a.getD k []).getD i 0) ((b.getD i []).getD j 0)) := by
                unfold Hid; rw [← hcg.out j i hil]; rfl
              generalize (a.getD k []).getD i 0 = x1 at *
              generalize (b.getD i []).getD j 0 = x2 at *
              generalize dotTo (a.getD k []) (col b j) i = t at *
              have X1 : Hid (bits .xor .u8 (t : Int) ((Fld.mul x1 x2 : Nat) : Int) = ((t ^^^ Fld.mul x1 x2 : Nat) : Int)) := u8_xor_nat t _ p3 (Fld.mul_lt _ _)
              have d2 : (i : Int) < (nb : Int) := by omega
              clear hcells hrows hrowsb hcx
              go_wp2_with fail
              go_quiet ((go_at_call 39; exact Calls.quiet_of_same (refMul_any x1 x2 p1 p2 _)))
              go_wp2_with fail
              exact ⟨⟨i + 1, by omega, rfl, by rw [HN.out, X1.out], below_drewN hbV _⟩, by simp [intOf]; omega⟩
            · obtain rfl : i = nb := by omega
              have hr' := hr.out.below (by rw [hBM]; exact hbV)
              have HTk : Hid _ := Hd.out k j hlt hjl
              have hB2 : WB ≤ wr.heap.size := Nat.le_trans hWM (hBM ▸ hbV.size)
              generalize dotTo (a.getD k []) (col b j) i = t at *
              go_wp2_with (refine wpList_app8 rfl (.tmp 66) (.tmp 68) rfl WB _ _ rfl (by exact hr'.alloc _) _ _ t rfl (by exact Has.new _ _ _ _ rfl) (hl12.out _ j) (Nat.le_trans hB2 (by simp)) ?_; intro v' w2 ho2 hb2)
              have B2 : Below WB wo w2 := (belowAlloc hbV2 _ hB2).trans hb2
              rw [HTk.out] at ho2
              exact ⟨⟨j + 1, by omega, rfl, ho2, B2⟩, by simp [intOf]; omega⟩
        · obtain rfl : j = cb := by omega
          have ho' := ho.out.below (by rw [hB]; exact hbW)
          have hr' := hr.out
          rw [← HW.out] at hr'
          have hwB : w.heap.size ≤ WB := by rw [← hB]; exact hbl.size
          have hlr : (U8s (mrow b (a.getD k []))).toList.length = j := by rw [U8s_toList_length, mrow_length, hcb]
          obtain ⟨gg, capg, hv, _⟩ := hr'.form (by rw [hlr]; omega)
          rw [hlr] at hv
          subst hv
          have hr2 : Hid (Owns 5 w.heap.size _ (U8s (mrow b (a.getD k []))).toList wm) := Owns.mono hr' hwB
          have hB2 : w.heap.size ≤ wm.heap.size := Nat.le_trans hbl.size (hB ▸ hbW.size)
          go_wp2_with (refine wpList_appRow rfl (.tmp 70) (.tmp 72) rfl w.heap.size _ _ _ _ rfl (by exact ho'.below ((Below.refl _ _).alloc (Nat.le_refl _) _)) _ _ rfl (by exact Has.new _ _ _ _ rfl) (by exact hr2.out.alloc _) (mrow_lt b _) (hl13.out k) (Nat.le_trans hB2 (by simp)) ?_; intro v' w2 ho2 hb2)
          have B2 : Below w.heap.size w w2 := (belowAlloc (hbl.trans (hbW.mono hwB)) _ hB2).trans hb2
          rw [HT.out k hlt] at ho2
          exact ⟨⟨k + 1, by omega, rfl, ho2, B2⟩, by simp [intOf]; omega⟩
    · obtain rfl : k = n := by omega
      go_wp2_with fail
      go_ret2
      have ho' := ho.out
      rw [← HZ.out] at ho'
      exact ⟨_, rfl, ho'.mat (by rw [HL.out]; omega) (fun i hi => by rw [HL.out] at hi; rw [HM.out i hi]; omega), hbl⟩
theorem refMul_f (va vb : Value) (a b : List (List Nat)) (w : World) (h1 : Mat w va a) (h2 : Mat w vb b) (h : okM a b = false) :
    Calls Try.prog 19 #[va, vb] w fun e w' => e = .returned (.tuple #[.slice none 0 0, .int .i64 4]) ∧ Below w.heap.size w w' := by
  cases ha : mayM a
  · go_enter Try.func19, Try.ntmps19
    go_wp2_with fail
    refine (refMay_any _ a w h1).mono ?_
    rintro e w1 ⟨rfl, b1⟩
    rw [ha]
    go_wp2_with fail
    go_ret2
    exact ⟨rfl, b1⟩
  cases hb : mayM b
  · go_enter Try.func19, Try.ntmps19
    go_wp2_with fail
    refine (refMay_any _ a w h1).mono ?_
    rintro e w1 ⟨rfl, b1⟩
    rw [ha]
    go_wp2_with fail
    refine (refMay_any _ b w1 (h2.below b1)).mono ?_
    rintro e w2 ⟨rfl, b2⟩
    rw [hb]
    go_wp2_with fail
    go_ret2
    exact ⟨rfl, belowCall b1 b2⟩
  have hne : (a.getD 0 []).length ≠ b.length := by
    unfold okM at h; rw [ha, hb] at h; simpa using h
  have hMa := h1
  have hMb := h2
  obtain ⟨f1, f2, f3, f4, f5⟩ := mayM_facts ha
  obtain ⟨g, o, cap, rfl, hg, hrows⟩ := h1.may ha
  obtain ⟨g0, o0, c0, hg0, k0, _⟩ := hrows 0 (by omega)
  obtain ⟨gb, ob, capb, rfl, hgb, _⟩ := h2.may hb
  simp only [Nat.add_zero] at k0
  generalize (a.getD 0 []).length = c at *
  have bn : (0 : Int) < (a.length : Int) := by omega
  have ecc : ((c : Int) != (b.length : Int)) = true := by simp; omega
  go_enter Try.func19, Try.ntmps19
  go_wp2_with fail
  refine (refMay_any _ a w hMa).mono ?_
  rintro e w1 ⟨rfl, b1⟩
  rw [ha]
  go_wp2_with fail
  refine (refMay_any _ b w1 (hMb.below b1)).mono ?_
  rintro e w2 ⟨rfl, b2⟩
  rw [hb]
  have B2 := belowCall b1 b2
  have k0' := cell_below B2 hg k0
  go_wp2_with fail
  go_ret2
  exact ⟨rfl, B2⟩
theorem refMul_any' (va vb : Value) (a b : List (List Nat)) (w : World) (h1 : Mat w va a) (h2 : Mat w vb b) :
    Calls Try.prog 19 #[va, vb] w fun e w' => ∃ r, e = .returned (.tuple #[r, .int .i64 (errM a b)]) ∧ Mat w' r (ansM a b) ∧ Below w.heap.size w w' := by
  cases h : okM a b
  · refine (refMul_f va vb a b w h1 h2 h).mono ?_
    rintro e w1 ⟨rfl, b1⟩
    exact ⟨.slice none 0 0, by simp [errM, h], by simpa [ansM, h] using Mat.nil w1, b1⟩
  · have h' := h
    unfold okM at h'
    simp only [Bool.and_eq_true, decide_eq_true_eq] at h'
    refine (refMul_t va vb a b w h1 h2 h'.1.1 h'.1.2 h'.2).mono ?_
    rintro e w1 ⟨r, rfl, hr, b1⟩
    exact ⟨r, by simp [errM, h], by simpa [ansM, h] using hr, b1⟩
end Go.Proofs.Ytnihohcdamhidaa
