/- The contracts of Copy and of what it calls. -/
import Derived.Test.YtgdiaflikfdnaaaCrash2
namespace Go.Proofs.Ytgdiaflikfdnaaa
open Go.RowKit Go.Maps
theorem eqs0 (w : World) : (binOp .eql 81 (.slice none 0 0) (.slice none 0 0)).run Try.prog w = .ok (.bool true) w := by kernel_rfl
theorem eqs1 (a : Addr) (n c : Nat) (w : World) : (binOp .eql 81 (.slice (some a) n c) (.slice none 0 0)).run Try.prog w = .ok (.bool false) w := by kernel_rfl
set_option maxHeartbeats 1000000 in
set_option maxRecDepth 20000 in
theorem cloneW_any {w : World} {v : Value} {n : Nat} {xs : List Value} (h : w.ownsRow 0 96 5 v n xs) (hn : n ≤ 1000000) (h1 : ∀ u ∈ xs, u.oneCell' = true) : Calls Try.prog 54 #[v] w fun e w' => ∃ v', e = .returned v' ∧ w'.ownsRow w.heap.size 96 5 v' n xs ∧ Below w.heap.size w w' := by
  obtain ⟨i, z, bytes, i1, i2, i3, i4, i5, i6⟩ := el83.info
  have hx := h.1
  have hq0 := eqs0
  have hq1 := eqs1
  rcases row_form h with ⟨rfl, rfl, rfl⟩ | ⟨g, cap, rfl, hg, _, hcap, _, hc⟩
  · go_enter Try.func54, Try.ntmps54
    go_wp2_with fail
    go_ret
    exact ⟨_, rfl, World.ownsRow_nil _ _ _ _, Below.refl _ _⟩
  · have hown := World.ownsRow_made (size := 5) (base := w.heap.size) (e := 96) w #[] 0 (Nat.le_refl _) (by unfold maxLen; omega) rfl
    have hcc : ∀ j u, xs[j]? = some u → (w.alloc (.cells #[] 96)).cell? ((⟨g, 0, none⟩ : Addr).add j) = some u := fun j u hu => by
      have e : (⟨g, 0, none⟩ : Addr).add j = ⟨g, j, none⟩ := by unfold Addr.add; split <;> simp_all
      rw [e, (boxed w (.cells #[] 96)).cell (p := ⟨g, j, none⟩) hg]
      exact hc j u hu
    clear h hc
    go_enter Try.func54, Try.ntmps54
    go_wp2_with (at_builtin; refine wpList_append_own _ rfl _ _ 81 rfl w.heap.size 96 i z 5 bytes Try.underlying81 i1 i2 i3 i4 i5 (by decide) _ 0 [] rfl hown ⟨g, 0, none⟩ n cap xs rfl hx hcc h1 (by unfold maxLen; omega) (by rw [Nat.zero_add]; exact Nat.le_trans (Nat.mul_le_mul hn i6) (by omega)) (by simp) ?_; intro v' w' hr' hg' hn')
    go_ret
    have hr2 : w'.ownsRow w.heap.size 96 5 v' n xs := by simpa using hr'
    exact ⟨v', rfl, hr2, (boxed w (.cells #[] 96)).grown hg' (by simp) fun j hj => by
      have e : some w.heap.size = some j := hj
      cases e; exact Nat.le_refl _⟩
theorem writes_one (ws : List Wr) : ∀ u ∈ ws.flatMap wcells, u.oneCell' = true := by
  intro u hu
  obtain ⟨q, _, hq⟩ := List.mem_flatMap.1 hu
  exact wcells_one q u hq
set_option maxHeartbeats 2000000 in
set_option maxRecDepth 20000 in
theorem copy_any {w : World} {S : Nat → Prop} {b : Nat} {s : St} (h : IsSt w S b s) (hn : s.writes.length ≤ 1000000) : Calls Try.prog 42 #[ptr b] w fun e w' => ∃ b' S', e = .returned (ptr b') ∧ IsSt w' S' b' s ∧ (∀ i, S' i → w.heap.size ≤ i) ∧ Below w.heap.size w w' := by
  obtain ⟨mo, wv, h1, h2, h3, h4, h5, h6, h7, h8⟩ := h
  obtain ⟨c0, c1, c2, c3, c4, c5, c6⟩ := scells_cell h1
  obtain ⟨wa, wc, rfl⟩ := row_slice h3
  have hb := h1.lt
  have HA := hid (Has.new w w.heap.size (scells mo (.slice wa s.writes.length wc) s) 83 rfl)
  have HB := hid (boxed w (.cells (scells mo (.slice wa s.writes.length wc) s) 83))
  have hcl : ∀ W, Below w.heap.size w W → Calls Try.prog 53 #[.map mo] W fun e w' => ∃ mo', e = .returned (.map mo') ∧ MapV w' mo' s.seen ∧ (∀ m, mo' = some m → W.heap.size ≤ m ∧ m < w'.heap.size) ∧ mo'.isSome = s.live ∧ Below W.heap.size W w' := fun W hW => by
    cases mo with
    | none => exact (Try.maps_Clone_nil W).mono fun e w' ⟨e1, e2⟩ => ⟨none, e1, h2, fun m hm => (by cases hm), h8, by rw [e2]; exact Below.refl _ _⟩
    | some m =>
      have hM : MapIs W m s.seen := MapIs.below h2 hW
      exact (Try.maps_Clone_owns 9 contR m _ _ W hM.1).mono fun e w' ⟨e1, e2, e3, e4⟩ => ⟨some W.heap.size, e1, ⟨e2, hM.2⟩, fun k hk => by cases hk; exact ⟨Nat.le_refl _, e2.lt⟩, h8, e4⟩
  have hcw : ∀ W, Below w.heap.size w W → Calls Try.prog 54 #[.slice wa s.writes.length wc] W fun e w' => ∃ v', e = .returned v' ∧ w'.ownsRow W.heap.size 96 5 v' s.writes.length (s.writes.flatMap wcells) ∧ Below W.heap.size W w' := fun W hW => cloneW_any (row_below h3 hW) hn (writes_one _)
  have HCL := hid hcl
  have HCW := hid hcw
  have H1 := hid h1
  clear h1 h2 h3 h4 h5 h6 h7 hcl hcw
  unfold ptr
  go_enter Try.func42, Try.ntmps42
  go_wp2_with fail
  refine (HCL.out _ HB.out).mono ?_
  rintro e w1 ⟨mo', rfl, m1, m2, m3, m4⟩
  have a1 : Has w1 w.heap.size (scells mo (.slice wa s.writes.length wc) s) 83 := HA.out.below m4 HA.out.lt
  have hsA : (w.alloc (.cells (scells mo (.slice wa s.writes.length wc) s) 83)).heap.size = w.heap.size + 1 := by simp
  have B1 : Below w.heap.size w w1 := HB.out.trans (m4.mono (by rw [hsA]; omega))
  have f0 := a1.frozen 0
  have k0 : w1.cell? ⟨w.heap.size, 0, none⟩ = some (.map mo) := a1.cell 0
  have B2 : Below w.heap.size w (w1.setCell ⟨w.heap.size, 0, none⟩ (.map mo')) := B1.setCell (Nat.le_refl _) _
  have b1 : Has (w1.setCell ⟨w.heap.size, 0, none⟩ (.map mo')) b (scells mo (.slice wa s.writes.length wc) s) 83 := H1.out.below B2 hb
  have k1 : (w1.setCell ⟨w.heap.size, 0, none⟩ (.map mo')).cell? ⟨b, 1, none⟩ = some (.slice wa s.writes.length wc) := b1.cell 1
  have HA1 := hid a1
  have HB2 := hid B2
  have HM1 := hid m1
  have HM2 := hid m2
  have HM3 := hid m3
  have hcw2 := HCW.out _ B2
  have hsz1 : w.heap.size + 1 ≤ w1.heap.size := by have := m4.size; rw [hsA] at this; exact this
  clear m1 m2 m3 m4 a1 B1 B2 b1 c0 c1 c2 c3 c4 c5 c6 HCL HCW
  go_wp2_with fail
  refine hcw2.mono ?_
  rintro e w3 ⟨v', rfl, r1, r2⟩
  obtain ⟨va, vc, rfl⟩ := row_slice r1
  have a2 : Has (w1.setCell ⟨w.heap.size, 0, none⟩ (.map mo')) w.heap.size (scells mo' (.slice wa s.writes.length wc) s) 83 := HA1.out.set 0 _
  have a3 := a2.below r2 a2.lt
  have f1 := a3.frozen 1
  have k2 : w3.cell? ⟨w.heap.size, 1, none⟩ = some (.slice wa s.writes.length wc) := a3.cell 1
  have a4 : Has (w3.setCell ⟨w.heap.size, 1, none⟩ (.slice va s.writes.length vc)) w.heap.size (scells mo' (.slice va s.writes.length vc) s) 83 := a3.set 1 _
  have hM3 : MapV w3 mo' s.seen := (MapV.setb HM1.out HA1.out 0 _).block fun m _ hl => r2.block m hl
  have hlt3 : w1.heap.size ≤ w3.heap.size := by have := r2.size; simpa [World.setCell] using this
  have hFin : Hid (IsSt (w3.setCell ⟨w.heap.size, 1, none⟩ (.slice va s.writes.length vc)) (fun i => w.heap.size ≤ i ∧ i < w3.heap.size) w.heap.size s) := hid
    ⟨mo', .slice va s.writes.length vc, a4, hM3.setb a3 _ _, row_setb (row_base r1 (Nat.zero_le _)) a3 (by decide) _ _, ⟨Nat.le_refl _, by omega⟩, fun m hm => by
      have := HM2.out m hm
      rw [hsA] at this
      exact ⟨by omega, by omega⟩, fun g hg => by
      have := r1.lt g hg
      have e : (w1.setCell ⟨w.heap.size, 0, none⟩ (.map mo')).heap.size = w1.heap.size := by simp [World.setCell]
      rw [e] at this
      exact ⟨by omega, this.2⟩, fun i hi => by simpa [World.setCell] using hi.2, HM3.out⟩
  have hBF : Hid (Below w.heap.size w (w3.setCell ⟨w.heap.size, 1, none⟩ (.slice va s.writes.length vc))) := hid ((HB2.out.trans (r2.mono (by simp [World.setCell]; omega))).setCell (Nat.le_refl _) _)
  clear r1 r2 a2 a3 a4 hM3 hcw2 k0 k1 f0 HA1 HB2 HM1 HM2 HM3
  go_wp2_with fail
  go_ret
  exact ⟨w.heap.size, _, rfl, hFin.out, fun i hi => hi.1, hBF.out⟩
set_option maxRecDepth 20000 in
theorem copy_nil (w : World) : Calls Try.prog 42 #[.pointer none] w fun e w' => e = .returned (.pointer none) ∧ w' = w := by
  go_enter Try.func42, Try.ntmps42
  go_wp2_with fail
  go_ret
  exact ⟨rfl, rfl⟩
set_option maxRecDepth 20000 in
theorem objects_nil (w : World) : Calls Try.prog 40 #[.pointer none] w fun e w' => e = .returned (.slice none 0 0) ∧ w' = w := by
  go_enter Try.func40, Try.ntmps40
  go_wp2_with fail
  go_ret
  exact ⟨rfl, rfl⟩
set_option maxRecDepth 20000 in
theorem crash_nil (kv : Value) (w : World) : Calls Try.prog 38 #[.pointer none, kv] w fun e w' => e = .returned (er 2) ∧ Below w.heap.size w w' := by
  have HB := hid (boxed w (.cells #[.pointer none] 48))
  unfold er
  go_enter Try.func38, Try.ntmps38
  go_wp2_with fail
  go_ret
  exact ⟨rfl, HB.out⟩
end Go.Proofs.Ytgdiaflikfdnaaa
