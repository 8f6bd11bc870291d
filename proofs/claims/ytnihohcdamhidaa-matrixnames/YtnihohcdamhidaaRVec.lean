/- The document's Vec: what it tells, and how it is refused. -/
import Derived.Test.YtnihohcdamhidaaOut
import Derived.Test.YtnihohcdamhidaaRead
namespace Go.Proofs.Ytnihohcdamhidaa
open Go.RowKit
theorem mayM_facts {m : List (List Nat)} (h : mayM m = true) : 1 ≤ m.length ∧ m.length ≤ 12 ∧ 1 ≤ (m.getD 0 []).length ∧ (m.getD 0 []).length ≤ 12 ∧ ∀ j, j < m.length → (m.getD j []).length = (m.getD 0 []).length := of_decide_eq_true h
theorem Mat.may {w : World} {v : Value} {m : List (List Nat)} (h : Mat w v m) (hm : mayM m = true) : ∃ g o cap, v = .slice (.some ⟨g, o, none⟩) m.length cap ∧ g < w.heap.size ∧
    ∀ j, j < m.length → ∃ gr q cr, gr < w.heap.size ∧ w.cell? ⟨g, o + j, none⟩ = .some (.slice (.some ⟨gr, q, none⟩) (m.getD 0 []).length cr) ∧ ∀ i, i < (m.getD 0 []).length → w.cell? ⟨gr, q + i, none⟩ = .some (.int .u8 (((m.getD j []).getD i 0 : Nat) : Int)) ∧ (m.getD j []).getD i 0 < 256 := by
  obtain ⟨f1, f2, f3, f4, f5⟩ := mayM_facts hm
  obtain ⟨g, o, cap, h1, h2, h3, h4⟩ := h.some (by omega)
  refine ⟨g, o, cap, h1, h3, fun j hj => ?_⟩
  obtain ⟨r, h5, h6⟩ := h4 j hj
  obtain ⟨gr, q, cr, rfl, h7, h8, h9, h10⟩ := h6.some (by have := f5 j hj; omega)
  rw [f5 j hj] at h5 h7 h10
  exact ⟨gr, q, cr, h9, h5, fun i hi => ⟨h10 i hi, getD_lt h8 i⟩⟩
def mulV (m : List (List Nat)) (l : List Nat) : List Nat := m.map fun r => dot r l
def okV (m : List (List Nat)) (l : List Nat) : Bool := mayM m && decide ((m.getD 0 []).length = l.length)
theorem mulV_take (m : List (List Nat)) (l : List Nat) (k : Nat) (hk : k < m.length) : (mulV m l).take k ++ [dot (m.getD k []) l] = (mulV m l).take (k + 1) := by
  rw [List.take_succ_eq_append_getElem (by simp [mulV]; exact hk)]
  simp [mulV, List.getD_eq_getElem?_getD, List.getElem?_eq_getElem hk]
theorem mulV_lt (m : List (List Nat)) (l : List Nat) : ∀ x ∈ mulV m l, x < 256 := by
  intro x hx
  simp only [mulV, List.mem_map] at hx
  obtain ⟨r, _, rfl⟩ := hx
  exact dotTo_lt _ _ _
set_option maxRecDepth 20000 in
theorem refVec_t (v vl : Value) (m : List (List Nat)) (l : List Nat) (w : World) (h1 : Mat w v m) (h2 : Row8 w vl l) (hm : mayM m = true) (hc : (m.getD 0 []).length = l.length) :
    Calls Try.prog 20 #[v, vl] w fun e w' => ∃ r, e = .returned (.tuple #[r, .int .i64 0]) ∧ Row8 w' r (mulV m l) ∧ Below w.heap.size w w' := by
  have hM := h1
  obtain ⟨f1, f2, f3, f4, f5⟩ := mayM_facts hm
  obtain ⟨g, o, cap, rfl, hg, hrows⟩ := h1.may hm
  obtain ⟨gl, ol, cl, rfl, _, hlx, hgl, hlc⟩ := h2.some (by omega)
  obtain ⟨g0, o0, c0, hg0, k0, _⟩ := hrows 0 (by omega)
  simp only [Nat.add_zero] at k0
  have HT : Hid (∀ k, k < m.length → (mulV m l).take k ++ [dotTo (m.getD k []) l l.length] = (mulV m l).take (k + 1)) := fun k hk => by
    rw [← mulV_take m l k hk]; unfold dot; rw [f5 k hk, hc]
  have HZ : Hid (mulV m l = (mulV m l).take m.length) := by unfold Hid; rw [List.take_of_length_le]; simp [mulV]
  rw [← hc] at HT hlc ⊢
  have hl12 : Hid (∀ k, ((mulV m l).take k).length ≤ 1000000) := fun k => by simp [mulV]; omega
  generalize hcc : (m.getD 0 []).length = c at *
  generalize hn : m.length = n at *
  have bn : (0 : Int) < (n : Int) := by omega
  have ecc : ((c : Int) != (c : Int)) = false := by simp
  clear hc
  go_enter Try.func20, Try.ntmps20
  go_wp2_with fail
  refine (refMay_any _ m w hM).mono ?_
  rintro e w1 ⟨rfl, b1⟩
  rw [hm]
  have k0' := cell_below b1 hg k0
  go_wp2_with fail
  clear k0 k0'
  go_loopw [6, 7] (fun vo vi wr => ∃ k : Nat, k ≤ n ∧ vi = .int .i64 (k : Int) ∧ Owns 5 w.heap.size vo (U8s ((mulV m l).take k)).toList wr ∧ Below w.heap.size w wr) (fun _ vi _ => n - (intOf vi).toNat)
  case atStart => exact ⟨0, by omega, rfl, Owns.nil 5 w.heap.size _, b1⟩
  case round =>
    obtain ⟨k, hk, rfl, ho, hb⟩ := hrel
    obtain ⟨wo, hwo⟩ : ∃ wo, wo = wr := ⟨_, rfl⟩
    subst hwo
    by_cases hlt : k < n
    · obtain ⟨gr, q, cr, hgr, kr, hcells⟩ := hrows k hlt
      have kr1 : Hid (∀ W, Below wo.heap.size wo W → W.cell? ⟨g, o + k, none⟩ = some (.slice (some ⟨gr, q, none⟩) c cr)) := fun W hW => cell_below (belowCall hb hW) hg kr
      have kr2 : Hid (∀ W, Below wo.heap.size wo W → ∀ i, i < c → W.cell? ⟨gr, q + i, none⟩ = some (.int .u8 (((m.getD k []).getD i 0 : Nat) : Int)) ∧ W.cell? ⟨gl, ol + i, none⟩ = some (.int .u8 ((l.getD i 0 : Nat) : Int))) := fun W hW i hi => ⟨cell_below (belowCall hb hW) hgr (hcells i hi).1, cell_below (belowCall hb hW) hgl (hlc i hi)⟩
      have d0 : (k : Int) < (n : Int) := by omega
      go_wp2_with fail
      generalize hB : wo.heap.size = WB at *
      go_loopw [8, 9] (fun vx vj W => ∃ j : Nat, j ≤ c ∧ vj = .int .i64 (j : Int) ∧ vx = .int .u8 ((dotTo (m.getD k []) l j : Nat) : Int) ∧ Below WB wo W) (fun _ vj _ => c - (intOf vj).toNat)
      case atStart => exact ⟨0, by omega, rfl, rfl, by rw [← hB]; exact Below.refl _ _⟩
      case round =>
        obtain ⟨j, hj, rfl, rfl, hbW⟩ := hrel
        by_cases hjl : j < c
        · have q1 := kr1.out _ hbW
          obtain ⟨q2, q3⟩ := kr2.out _ hbW j hjl
          have p1 := (hcells j hjl).2
          have p2 := getD_lt hlx j
          have p3 := dotTo_lt (m.getD k []) l j
          have HN : Hid (dotTo (m.getD k []) l (j + 1) = dotTo (m.getD k []) l j ^^^ Fld.mul ((m.getD k []).getD j 0) (l.getD j 0)) := rfl
          generalize (m.getD k []).getD j 0 = x1 at *
          generalize l.getD j 0 = x2 at *
          generalize dotTo (m.getD k []) l j = t at *
          have X1 : Hid (bits .xor .u8 (t : Int) ((Fld.mul x1 x2 : Nat) : Int) = ((t ^^^ Fld.mul x1 x2 : Nat) : Int)) := u8_xor_nat t _ p3 (Fld.mul_lt _ _)
          have d1 : (j : Int) < (c : Int) := by omega
          clear hcells hrows
          go_wp2_with fail
          go_quiet ((go_at_call 39; exact Calls.quiet_of_same (refMul_any x1 x2 p1 p2 _)))
          go_wp2_with fail
          exact ⟨⟨j + 1, by omega, rfl, by rw [HN.out, X1.out], below_drewN hbW _⟩, by simp [intOf]; omega⟩
        · obtain rfl : j = c := by omega
          have ho' := ho.below (by rw [hB]; exact hbW)
          have HTk : Hid _ := HT.out k hlt
          have hB2 : w.heap.size ≤ wr.heap.size := Nat.le_trans hb.size (hB ▸ hbW.size)
          generalize dotTo (m.getD k []) l j = t at *
          go_wp2_with (refine wpList_app8 rfl (.tmp 48) (.tmp 50) rfl w.heap.size _ _ rfl (by exact ho'.alloc _) _ _ t rfl (by exact Has.new _ _ _ _ rfl) (hl12.out k) (Nat.le_trans hB2 (by simp)) ?_; intro v' w2 ho2 hb2)
          have B2 : Below w.heap.size w w2 := (belowAlloc (hb.trans (hbW.mono (by rw [← hB]; exact hb.size))) _ hB2).trans hb2
          rw [HTk.out] at ho2
          exact ⟨⟨k + 1, by omega, rfl, ho2, B2⟩, by simp [intOf]; omega⟩
    · obtain rfl : k = n := by omega
      go_wp2_with fail
      go_ret2
      rw [← HZ.out] at ho
      exact ⟨_, rfl, ho.row (mulV_lt m l) (by simp [mulV]; omega), hb⟩
theorem refVec_f (v vl : Value) (m : List (List Nat)) (l : List Nat) (w : World) (h1 : Mat w v m) (h2 : Row8 w vl l) (hm : okV m l = false) :
    Calls Try.prog 20 #[v, vl] w fun e w' => e = .returned (.tuple #[.slice none 0 0, .int .i64 4]) ∧ Below w.heap.size w w' := by
  cases hmm : mayM m
  · go_enter Try.func20, Try.ntmps20
    go_wp2_with fail
    refine (refMay_any _ m w h1).mono ?_
    rintro e w1 ⟨rfl, b1⟩
    rw [hmm]
    go_wp2_with fail
    go_ret2
    exact ⟨rfl, b1⟩
  · have hne : (m.getD 0 []).length ≠ l.length := by
      unfold okV at hm; rw [hmm] at hm; simpa using hm
    have hM := h1
    obtain ⟨f1, f2, f3, f4, f5⟩ := mayM_facts hmm
    obtain ⟨g, o, cap, rfl, hg, hrows⟩ := h1.may hmm
    obtain ⟨al, cl, rfl, _⟩ := h2
    obtain ⟨g0, o0, c0, hg0, k0, _⟩ := hrows 0 (by omega)
    simp only [Nat.add_zero] at k0
    generalize (m.getD 0 []).length = c at *
    generalize hn : m.length = n at *
    have bn : (0 : Int) < (n : Int) := by omega
    have ecc : ((c : Int) != (l.length : Int)) = true := by simp; omega
    go_enter Try.func20, Try.ntmps20
    go_wp2_with fail
    refine (refMay_any _ m w hM).mono ?_
    rintro e w1 ⟨rfl, b1⟩
    rw [hmm]
    have k0' := cell_below b1 hg k0
    go_wp2_with fail
    go_ret2
    exact ⟨rfl, b1⟩
def ansV (m : List (List Nat)) (l : List Nat) : List Nat := if okV m l then mulV m l else []
def errV (m : List (List Nat)) (l : List Nat) : Int := if okV m l then 0 else 4
theorem refVec_any (v vl : Value) (m : List (List Nat)) (l : List Nat) (w : World) (h1 : Mat w v m) (h2 : Row8 w vl l) :
    Calls Try.prog 20 #[v, vl] w fun e w' => ∃ r, e = .returned (.tuple #[r, .int .i64 (errV m l)]) ∧ Row8 w' r (ansV m l) ∧ Below w.heap.size w w' := by
  cases h : okV m l
  · refine (refVec_f v vl m l w h1 h2 h).mono ?_
    rintro e w1 ⟨rfl, b1⟩
    exact ⟨.slice none 0 0, by simp [errV, h], by simpa [ansV, h] using Row8.nil w1, b1⟩
  · have h' := h
    unfold okV at h'
    simp only [Bool.and_eq_true, decide_eq_true_eq] at h'
    refine (refVec_t v vl m l w h1 h2 h'.1 h'.2).mono ?_
    rintro e w1 ⟨r, rfl, hr, b1⟩
    exact ⟨r, by simp [errV, h], by simpa [ansV, h] using hr, b1⟩
end Go.Proofs.Ytnihohcdamhidaa
