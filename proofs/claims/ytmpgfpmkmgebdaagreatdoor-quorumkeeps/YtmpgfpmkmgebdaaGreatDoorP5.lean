/- Quorum: which slot is taken. -/
import Derived.Test.YtmpgfpmkmgebdaaGreatDoorP3
namespace Go.Proofs.YtmpgfpmkmgebdaaGreatDoor
open Go.RowKit Go.Maps
open W
set_option linter.unusedVariables false
set_option maxHeartbeats 4000000 in
set_option maxRecDepth 20000 in
theorem slot_any (oe og : Int) (g o : Nat) (h : Hd) (w : World) (hh : HdAt w g o h) (hg : g < w.heap.size) : Calls Tryz.prog 38 #[.agg #[.int .i64 oe, .int .i64 og], .pointer (some ⟨g, o, none⟩)] w fun e w' => e = .returned (.int .i64 ((slt oe og h : Nat) : Int)) ∧ Below w.heap.size w w' := by
  obtain ⟨d, r0, r1⟩ := h
  obtain ⟨wa, hwa⟩ : ∃ wa, wa = w.alloc (.cells #[.int .i64 oe, .int .i64 og] 89) := ⟨_, rfl⟩
  have hb : Below w.heap.size w wa := by rw [hwa]; exact boxed _ _
  have hq : Has wa w.heap.size #[.int .i64 oe, .int .i64 og] 89 := by rw [hwa]; exact Has.new _ _ _ _ rfl
  have k1 := (hh.below hg hb).cells
  obtain ⟨_, ⟨a1, a2, a3, a4, a5, a6⟩, ⟨b1, b2, b3, b4, b5, b6⟩⟩ := k1
  obtain ⟨s0, e0, g0, k0, n0, p0⟩ := r0
  obtain ⟨s1, e1, g1, k1, n1, p1⟩ := r1
  simp only at a1 a2 a3 a4 a5 a6 b1 b2 b3 b4 b5 b6
  clear hh
  go_enter Tryz.func38, Tryz.ntmps38
  go_wp2_with fail
  rw [← hwa]
  have HQ := hid hq
  have HB := hid hb
  have hgl : g < wa.heap.size := Nat.lt_of_lt_of_le hg hb.size
  have hne : g ≠ wa.heap.size := by omega
  have hne1 : g ≠ wa.heap.size + 1 := by omega
  clear hwa hq hb hg
  have x1 : wa.cell? ⟨g, o + 1 + 6, none⟩ = some (.bool s1) := b1
  have x2 : wa.cell? ⟨g, o + 1 + 6 + 1, none⟩ = some (.int .i64 e1) := b2
  have x3 : wa.cell? ⟨g, o + 1 + 6 + 2, none⟩ = some (.int .i64 g1) := b3
  have x4 : wa.cell? ⟨g, o + 1 + 6 + 3, none⟩ = some (.int .i64 k1) := b4
  have x5 : wa.cell? ⟨g, o + 1 + 6 + 4, none⟩ = some (.int .i64 n1) := b5
  have x6 : wa.cell? ⟨g, o + 1 + 6 + 5, none⟩ = some (.string p1) := b6
  have y2 : wa.cell? ⟨g, o + 1 + 1, none⟩ = some (.int .i64 e0) := a2
  have y3 : wa.cell? ⟨g, o + 1 + 2, none⟩ = some (.int .i64 g0) := a3
  have y4 : wa.cell? ⟨g, o + 1 + 3, none⟩ = some (.int .i64 k0) := a4
  have y5 : wa.cell? ⟨g, o + 1 + 4, none⟩ = some (.int .i64 n0) := a5
  have y6 : wa.cell? ⟨g, o + 1 + 5, none⟩ = some (.string p0) := a6
  go_region
  · obtain ⟨W2, hW2⟩ : ∃ W2, W2 = ((wa.alloc (.cells #[.bool s0, .int .i64 e0, .int .i64 g0, .int .i64 k0, .int .i64 n0, .string p0] 105)).alloc (.cells #[.bool s1, .int .i64 e1, .int .i64 g1, .int .i64 k1, .int .i64 n1, .string p1] 105)).drew := ⟨_, rfl⟩
    have B2 : Below wa.heap.size wa W2 := by rw [hW2]; exact (((Below.refl _ _).alloc (Nat.le_refl _) _).alloc (by simp) _).drew
    obtain ⟨q0, hq0⟩ : ∃ q, q = wa.heap.size := ⟨_, rfl⟩
    obtain ⟨q1, hq1⟩ : ∃ q, q = wa.heap.size + 1 := ⟨_, rfl⟩
    have X0 : Has W2 q0 #[.bool s0, .int .i64 e0, .int .i64 g0, .int .i64 k0, .int .i64 n0, .string p0] 105 := by rw [hW2, hq0]; exact ((Has.new wa _ _ _ rfl).alloc _).drew
    have X1 : Has W2 q1 #[.bool s1, .int .i64 e1, .int .i64 g1, .int .i64 k1, .int .i64 n1, .string p1] 105 := by rw [hW2, hq1]; exact (Has.new _ (wa.heap.size + 1) _ _ (by simp)).drew
    rw [← hq1, ← hq0, ← hW2]
    clear hW2 hq0 hq1
    have HQ2 := hid (HQ.out.below B2 HQ.out.lt)
    obtain ⟨⟨u0, u1, u2, u3, u4, u5⟩, _⟩ := six_cells X0
    have HX0 := hid X0
    have HX1 := hid X1
    have HB2 := hid (HB.out.trans (B2.mono HB.out.size))
    clear X0 X1 B2
    go_wp2_with fail
    refine (base_any w.heap.size oe og ⟨s0, ⟨e0, g0, k0, n0, p0⟩⟩ W2 HQ2.out).mono ?_
    rintro e w3 ⟨rfl, hb3⟩
    clear u0 u1 u2 u3 u4 u5
    have HSL : Hid (slt oe og ⟨d, ⟨s0, ⟨e0, g0, k0, n0, p0⟩⟩, ⟨s1, ⟨e1, g1, k1, n1, p1⟩⟩⟩ = if isB oe og ⟨s0, ⟨e0, g0, k0, n0, p0⟩⟩ then 1 else if isB oe og ⟨s1, ⟨e1, g1, k1, n1, p1⟩⟩ || !s0 then 0 else if !s1 || ls ⟨e1, g1, k1, n1, p1⟩ ⟨e0, g0, k0, n0, p0⟩ then 1 else 0) := hid rfl
    have HB3 := hid (HB2.out.trans (hb3.mono HB2.out.size))
    have HQ3 := hid (HQ2.out.below hb3 HQ2.out.lt)
    have HY0 := hid (HX0.out.below hb3 HX0.out.lt)
    have HY1 := hid (HX1.out.below hb3 HX1.out.lt)
    clear hb3 HX0 HX1
    cases hi0 : isB oe og ⟨s0, ⟨e0, g0, k0, n0, p0⟩⟩ with
    | true =>
      rw [hi0] at HSL
      go_wp2_with fail
      go_ret
      exact ⟨by rw [HSL.out]; rfl, HB3.out⟩
    | false =>
      rw [hi0] at HSL
      have X1 := HY1.out
      obtain ⟨⟨u0, u1, u2, u3, u4, u5⟩, _⟩ := six_cells X1
      clear X1
      go_wp2_with fail
      refine (base_any w.heap.size oe og ⟨s1, ⟨e1, g1, k1, n1, p1⟩⟩ w3 HQ3.out).mono ?_
      rintro e w4 ⟨rfl, hb4⟩
      clear u0 u1 u2 u3 u4 u5
      have HB4 := hid (HB3.out.trans (hb4.mono HB3.out.size))
      have X0 := HY0.out.below hb4 HY0.out.lt
      have X1 := HY1.out.below hb4 HY1.out.lt
      obtain ⟨⟨u0, u1, u2, u3, u4, u5⟩, _⟩ := six_cells X0
      obtain ⟨⟨v0, v1, v2, v3, v4, v5⟩, _⟩ := six_cells X1
      clear X0 X1 hb4 HY0 HY1 HQ3
      cases hi1 : isB oe og ⟨s1, ⟨e1, g1, k1, n1, p1⟩⟩ with
      | true =>
        rw [hi1] at HSL
        go_wp2_with fail
        go_ret
        exact ⟨by rw [HSL.out]; rfl, HB4.out⟩
      | false =>
        rw [hi1] at HSL
        cases s0 with
        | false =>
          go_wp2_with fail
          go_ret
          exact ⟨by rw [HSL.out]; rfl, HB4.out⟩
        | true =>
          cases s1 with
          | false =>
            go_wp2_with fail
            go_ret
            exact ⟨by rw [HSL.out]; rfl, HB4.out⟩
          | true =>
            go_wp2_with fail
            refine (F.less_any e1 g1 e0 g0 _).mono ?_
            rintro e w5 ⟨rfl, hb5⟩
            have HB5 := hid (HB4.out.trans (hb5.mono HB4.out.size))
            clear u0 u1 u2 u3 u4 u5 v0 v1 v2 v3 v4 v5 hb5
            unfold ls at HSL
            simp only at HSL
            cases hls : F.lessB e1 g1 e0 g0 with
            | true =>
              rw [hls] at HSL
              go_wp2_with fail
              go_ret
              exact ⟨by rw [HSL.out]; rfl, HB5.out⟩
            | false =>
              rw [hls] at HSL
              go_wp2_with fail
              go_ret
              exact ⟨by rw [HSL.out]; rfl, HB5.out⟩
  · obtain ⟨W2, hW2⟩ : ∃ W2, W2 = ((wa.alloc (.cells #[.bool s1, .int .i64 e1, .int .i64 g1, .int .i64 k1, .int .i64 n1, .string p1] 105)).alloc (.cells #[.bool s0, .int .i64 e0, .int .i64 g0, .int .i64 k0, .int .i64 n0, .string p0] 105)).drew := ⟨_, rfl⟩
    have B2 : Below wa.heap.size wa W2 := by rw [hW2]; exact (((Below.refl _ _).alloc (Nat.le_refl _) _).alloc (by simp) _).drew
    obtain ⟨q1, hq1⟩ : ∃ q, q = wa.heap.size := ⟨_, rfl⟩
    obtain ⟨q0, hq0⟩ : ∃ q, q = wa.heap.size + 1 := ⟨_, rfl⟩
    have X1 : Has W2 q1 #[.bool s1, .int .i64 e1, .int .i64 g1, .int .i64 k1, .int .i64 n1, .string p1] 105 := by rw [hW2, hq1]; exact ((Has.new wa _ _ _ rfl).alloc _).drew
    have X0 : Has W2 q0 #[.bool s0, .int .i64 e0, .int .i64 g0, .int .i64 k0, .int .i64 n0, .string p0] 105 := by rw [hW2, hq0]; exact (Has.new _ (wa.heap.size + 1) _ _ (by simp)).drew
    rw [← hq0, ← hq1, ← hW2]
    clear hW2 hq1 hq0
    have HQ2 := hid (HQ.out.below B2 HQ.out.lt)
    obtain ⟨⟨u0, u1, u2, u3, u4, u5⟩, _⟩ := six_cells X0
    have HX0 := hid X0
    have HX1 := hid X1
    have HB2 := hid (HB.out.trans (B2.mono HB.out.size))
    clear X0 X1 B2
    go_wp2_with fail
    refine (base_any w.heap.size oe og ⟨s0, ⟨e0, g0, k0, n0, p0⟩⟩ W2 HQ2.out).mono ?_
    rintro e w3 ⟨rfl, hb3⟩
    clear u0 u1 u2 u3 u4 u5
    have HSL : Hid (slt oe og ⟨d, ⟨s0, ⟨e0, g0, k0, n0, p0⟩⟩, ⟨s1, ⟨e1, g1, k1, n1, p1⟩⟩⟩ = if isB oe og ⟨s0, ⟨e0, g0, k0, n0, p0⟩⟩ then 1 else if isB oe og ⟨s1, ⟨e1, g1, k1, n1, p1⟩⟩ || !s0 then 0 else if !s1 || ls ⟨e1, g1, k1, n1, p1⟩ ⟨e0, g0, k0, n0, p0⟩ then 1 else 0) := hid rfl
    have HB3 := hid (HB2.out.trans (hb3.mono HB2.out.size))
    have HQ3 := hid (HQ2.out.below hb3 HQ2.out.lt)
    have HY0 := hid (HX0.out.below hb3 HX0.out.lt)
    have HY1 := hid (HX1.out.below hb3 HX1.out.lt)
    clear hb3 HX0 HX1
    cases hi0 : isB oe og ⟨s0, ⟨e0, g0, k0, n0, p0⟩⟩ with
    | true =>
      rw [hi0] at HSL
      go_wp2_with fail
      go_ret
      exact ⟨by rw [HSL.out]; rfl, HB3.out⟩
    | false =>
      rw [hi0] at HSL
      have X1 := HY1.out
      obtain ⟨⟨u0, u1, u2, u3, u4, u5⟩, _⟩ := six_cells X1
      clear X1
      go_wp2_with fail
      refine (base_any w.heap.size oe og ⟨s1, ⟨e1, g1, k1, n1, p1⟩⟩ w3 HQ3.out).mono ?_
      rintro e w4 ⟨rfl, hb4⟩
      clear u0 u1 u2 u3 u4 u5
      have HB4 := hid (HB3.out.trans (hb4.mono HB3.out.size))
      have X0 := HY0.out.below hb4 HY0.out.lt
      have X1 := HY1.out.below hb4 HY1.out.lt
      obtain ⟨⟨u0, u1, u2, u3, u4, u5⟩, _⟩ := six_cells X0
      obtain ⟨⟨v0, v1, v2, v3, v4, v5⟩, _⟩ := six_cells X1
      clear X0 X1 hb4 HY0 HY1 HQ3
      cases hi1 : isB oe og ⟨s1, ⟨e1, g1, k1, n1, p1⟩⟩ with
      | true =>
        rw [hi1] at HSL
        go_wp2_with fail
        go_ret
        exact ⟨by rw [HSL.out]; rfl, HB4.out⟩
      | false =>
        rw [hi1] at HSL
        cases s0 with
        | false =>
          go_wp2_with fail
          go_ret
          exact ⟨by rw [HSL.out]; rfl, HB4.out⟩
        | true =>
          cases s1 with
          | false =>
            go_wp2_with fail
            go_ret
            exact ⟨by rw [HSL.out]; rfl, HB4.out⟩
          | true =>
            go_wp2_with fail
            refine (F.less_any e1 g1 e0 g0 _).mono ?_
            rintro e w5 ⟨rfl, hb5⟩
            have HB5 := hid (HB4.out.trans (hb5.mono HB4.out.size))
            clear u0 u1 u2 u3 u4 u5 v0 v1 v2 v3 v4 v5 hb5
            unfold ls at HSL
            simp only at HSL
            cases hls : F.lessB e1 g1 e0 g0 with
            | true =>
              rw [hls] at HSL
              go_wp2_with fail
              go_ret
              exact ⟨by rw [HSL.out]; rfl, HB5.out⟩
            | false =>
              rw [hls] at HSL
              go_wp2_with fail
              go_ret
              exact ⟨by rw [HSL.out]; rfl, HB5.out⟩
end Go.Proofs.YtmpgfpmkmgebdaaGreatDoor
/- Quorum: a list of what stores have, as it lies in memory. -/
namespace Go.Proofs.YtmpgfpmkmgebdaaGreatDoor
open Go.RowKit Go.Maps
open W
set_option linter.unusedVariables false
/-- the cells hold the list -/
structure Rows13 (cs : Array Value) (l : List Hd) : Prop where
  size : cs.size = l.length * 13
  at' : ∀ (j : Nat) (h : Hd), l[j]? = some h → ∀ (k : Nat) (v : Value), (hV h)[k]? = some v → cs[j * 13 + k]? = some v
/-- block g is a list of what stores have -/
def AllAt (W : World) (g : Nat) (l : List Hd) : Prop := ∃ cs, Has W g cs 108 ∧ Rows13 cs l
theorem hV_len (h : Hd) : (hV h).length = 13 := rfl
theorem AllAt.hd {W : World} {g : Nat} {l : List Hd} (k : AllAt W g l) {j : Nat} {h : Hd} (hj : l[j]? = some h) : HdAt W g (j * 13) h := by
  obtain ⟨cs, h1, h2⟩ := k
  exact ⟨fun i v hv => (h1.cell _).trans (h2.at' j h hj i v hv)⟩
theorem AllAt.lt {W : World} {g : Nat} {l : List Hd} (k : AllAt W g l) : g < W.heap.size := by
  obtain ⟨cs, h1, h2⟩ := k
  exact h1.lt
theorem AllAt.frozen {W : World} {g : Nat} {l : List Hd} (k : AllAt W g l) (i : Nat) : W.frozen? ⟨g, i, none⟩ = false := by
  obtain ⟨cs, h1, h2⟩ := k
  exact h1.frozen i
theorem AllAt.below {W W' : World} {g : Nat} {l : List Hd} (k : AllAt W g l) (hb : Below W.heap.size W W') : AllAt W' g l := by
  obtain ⟨cs, h1, h2⟩ := k
  exact ⟨cs, h1.below hb h1.lt, h2⟩
theorem AllAt.kpt {W W' : World} {T : Nat → Prop} {g : Nat} {l : List Hd} (k : AllAt W g l) (hk : Kpt T W W') (hg : T g) : AllAt W' g l := by
  obtain ⟨cs, h1, h2⟩ := k
  exact ⟨cs, hk.has hg h1, h2⟩
theorem AllAt.only {W W' : World} {S : Nat → Prop} {g : Nat} {l : List Hd} (k : AllAt W g l) (hk : Only S W W') (hg : ¬ S g) : AllAt W' g l := by
  obtain ⟨cs, h1, h2⟩ := k
  exact ⟨cs, hk.has h1 hg, h2⟩
/-- a place of the list is written -/
theorem Rows13.set {cs cs' : Array Value} {l : List Hd} (h : Rows13 cs l) {j : Nat} {y : Hd} (hj : j < l.length) (hs : cs'.size = cs.size) (h1 : ∀ k v, (hV y)[k]? = some v → cs'[j * 13 + k]? = some v) (h2 : ∀ m, m < j * 13 ∨ j * 13 + 13 ≤ m → cs'[m]? = cs[m]?) : Rows13 cs' (l.set j y) := by
  refine ⟨by rw [hs, h.size, List.length_set], fun i z hz k v hv => ?_⟩
  have hk : k < 13 := by
    have := (List.getElem?_eq_some_iff.1 hv).1
    rw [hV_len] at this
    exact this
  by_cases hij : i = j
  · subst hij
    rw [List.getElem?_set_self hj] at hz
    cases hz
    exact h1 k v hv
  · rw [List.getElem?_set_ne (by omega)] at hz
    rw [h2 _ (by omega)]
    exact h.at' i z hz k v hv
theorem AllAt.ans {W : World} {g : Nat} {l : List Hd} (k : AllAt W g l) {j : Nat} {h : Hd} (hj : l[j]? = some h) (d : Bool) : AllAt (W.setCell ⟨g, j * 13, none⟩ (.bool d)) g (l.set j { h with ans := d }) := by
  obtain ⟨cs, h1, h2⟩ := k
  have hl : j < l.length := (List.getElem?_eq_some_iff.1 hj).1
  have hz := h2.size
  refine ⟨_, h1.set (j * 13) (.bool d), h2.set hl (by simp) (fun k v hv => ?_) (fun m hm => by rw [Array.getElem?_setIfInBounds_ne (by omega)])⟩
  have hk : k < 13 := by
    have := (List.getElem?_eq_some_iff.1 hv).1
    rw [hV_len] at this
    exact this
  by_cases h0 : k = 0
  · subst h0
    cases hv
    rw [Nat.add_zero, Array.getElem?_setIfInBounds_self_of_lt (by omega)]
  · rw [Array.getElem?_setIfInBounds_ne (by omega)]
    refine h2.at' j h hj k v ?_
    obtain ⟨m, rfl⟩ : ∃ m, k = m + 1 := ⟨k - 1, by omega⟩
    exact hv
/-- six cells in a row are written -/
def set6 (W : World) (g o : Nat) (r : Rp) : World := (((((W.setCell ⟨g, o, none⟩ (.bool r.sd)).setCell ⟨g, o + 1, none⟩ (.int .i64 r.b.e)).setCell ⟨g, o + 2, none⟩ (.int .i64 r.b.g)).setCell ⟨g, o + 3, none⟩ (.int .i64 r.b.k)).setCell ⟨g, o + 4, none⟩ (.int .i64 r.b.n)).setCell ⟨g, o + 5, none⟩ (.string r.b.p)
theorem AllAt.slot {W : World} {g : Nat} {l : List Hd} (k : AllAt W g l) {j : Nat} {h : Hd} (hj : l[j]? = some h) {i : Nat} (hi : i ≤ 1) (r : Rp) : AllAt (set6 W g (j * 13 + 1 + i * 6) r) g (l.set j (setR h i r)) := by
  obtain ⟨cs, h1, h2⟩ := k
  have hl : j < l.length := (List.getElem?_eq_some_iff.1 hj).1
  have hz := h2.size
  obtain ⟨o, ho⟩ : ∃ o, o = j * 13 + 1 + i * 6 := ⟨_, rfl⟩
  have ho2 : o + 6 ≤ j * 13 + 13 := by omega
  have hH := (((((h1.set o (.bool r.sd)).set (o + 1) (.int .i64 r.b.e)).set (o + 2) (.int .i64 r.b.g)).set (o + 3) (.int .i64 r.b.k)).set (o + 4) (.int .i64 r.b.n)).set (o + 5) (.string r.b.p)
  have hother : ∀ m, (m < o ∨ o + 6 ≤ m) → ((((((cs.setIfInBounds o (.bool r.sd)).setIfInBounds (o + 1) (.int .i64 r.b.e)).setIfInBounds (o + 2) (.int .i64 r.b.g)).setIfInBounds (o + 3) (.int .i64 r.b.k)).setIfInBounds (o + 4) (.int .i64 r.b.n)).setIfInBounds (o + 5) (.string r.b.p))[m]? = cs[m]? := fun m hm => by
    rw [Array.getElem?_setIfInBounds_ne (by omega), Array.getElem?_setIfInBounds_ne (by omega), Array.getElem?_setIfInBounds_ne (by omega), Array.getElem?_setIfInBounds_ne (by omega), Array.getElem?_setIfInBounds_ne (by omega), Array.getElem?_setIfInBounds_ne (by omega)]
  have hin : ∀ m v, (rV r)[m]? = some v → ((((((cs.setIfInBounds o (.bool r.sd)).setIfInBounds (o + 1) (.int .i64 r.b.e)).setIfInBounds (o + 2) (.int .i64 r.b.g)).setIfInBounds (o + 3) (.int .i64 r.b.k)).setIfInBounds (o + 4) (.int .i64 r.b.n)).setIfInBounds (o + 5) (.string r.b.p))[o + m]? = some v := fun m v hv => by
    have hm : m < 6 := (List.getElem?_eq_some_iff.1 hv).1
    rcases (by omega : m = 0 ∨ m = 1 ∨ m = 2 ∨ m = 3 ∨ m = 4 ∨ m = 5) with rfl | rfl | rfl | rfl | rfl | rfl <;> cases hv <;> simp [Array.getElem?_setIfInBounds, show o + 5 < cs.size by omega] <;> omega
  rw [← ho]
  refine ⟨_, hH, h2.set hl (by simp) (fun m v hv => ?_) (fun m hm => hother m (by omega))⟩
  have hm : m < 13 := by
    have := (List.getElem?_eq_some_iff.1 hv).1
    rw [hV_len] at this
    exact this
  obtain ⟨d, r0, r1⟩ := h
  rcases (by omega : i = 0 ∨ i = 1) with rfl | rfl
  · by_cases hb : 1 ≤ m ∧ m < 7
    · have := hin (m - 1) v (by
        obtain ⟨q, rfl⟩ : ∃ q, m = q + 1 := ⟨m - 1, by omega⟩
        have hq : q < (rV r).length := by show q < 6; omega
        have e : (hV (setR ⟨d, r0, r1⟩ 0 r))[q + 1]? = (rV r ++ rV r1)[q]? := rfl
        rw [e, List.getElem?_append_left hq] at hv
        exact hv)
      rw [ho, show j * 13 + 1 + 0 * 6 + (m - 1) = j * 13 + m by omega] at this
      rw [ho]
      exact this
    · rw [hother _ (by omega)]
      refine h2.at' j _ hj m v ?_
      rcases (by omega : m = 0 ∨ 7 ≤ m) with rfl | h7
      · exact hv
      · obtain ⟨q, rfl⟩ : ∃ q, m = q + 7 := ⟨m - 7, by omega⟩
        exact hv
  · by_cases hb : 7 ≤ m
    · have := hin (m - 7) v (by
        obtain ⟨q, rfl⟩ : ∃ q, m = q + 7 := ⟨m - 7, by omega⟩
        exact hv)
      rw [ho, show j * 13 + 1 + 1 * 6 + (m - 7) = j * 13 + m by omega] at this
      rw [ho]
      exact this
    · rw [hother _ (by omega)]
      refine h2.at' j _ hj m v ?_
      rcases (by omega : m = 0 ∨ 1 ≤ m) with rfl | h7
      · exact hv
      · obtain ⟨q, rfl⟩ : ∃ q, m = q + 1 := ⟨m - 1, by omega⟩
        have hq : q < (rV r0).length := by show q < 6; omega
        have e : (hV (setR ⟨d, r0, r1⟩ 1 r))[q + 1]? = (rV r0 ++ rV r)[q]? := rfl
        have e2 : (hV ⟨d, r0, r1⟩)[q + 1]? = (rV r0 ++ rV r1)[q]? := rfl
        rw [e, List.getElem?_append_left hq] at hv
        rw [e2, List.getElem?_append_left hq]
        exact hv
theorem set6_only (W : World) (g o : Nat) (r : Rp) : Only (fun i => i = g) W (set6 W g o r) :=
  Only.set (p := ⟨g, o + 5, none⟩) (Only.set (p := ⟨g, o + 4, none⟩) (Only.set (p := ⟨g, o + 3, none⟩) (Only.set (p := ⟨g, o + 2, none⟩) (Only.set (p := ⟨g, o + 1, none⟩) (Only.set (p := ⟨g, o, none⟩) (Only.refl (fun i => i = g) W) (.inl rfl) _) (.inl rfl) _) (.inl rfl) _) (.inl rfl) _) (.inl rfl) _) (.inl rfl) _
/-- a new list -/
theorem makes_all (n : Nat) (hn : n ≤ 1000) (w : World) : ∃ cs, (Instr.makeSlice 68 (.int .i64 (n : Int)) (.int .i64 (n : Int))).run Tryz.prog w = .ok (.slice (some ⟨w.heap.size, 0, none⟩) n n) (w.alloc (.cells cs 108)) ∧ Rows13 cs (List.replicate n zH) := by
  obtain ⟨i, hi⟩ : ∃ i, Tryz.prog.info? 108 = some i := by
    cases h : Tryz.prog.info? 108 with
    | none => have : (Tryz.prog.info? 108).isSome = true := by kernel_rfl
              rw [h] at this; cases this
    | some i => exact ⟨i, rfl⟩
  have hz : (Tryz.prog.info? 108).map (fun i => (i.zero, i.size, i.bytes)) = some (some (.agg (hV zH).toArray), 13, 120) := by kernel_rfl
  rw [hi] at hz
  simp only [Option.map_some, Option.some.injEq, Prod.mk.injEq] at hz
  obtain ⟨h1, h2, h3⟩ := hz
  refine ⟨_, run_make w 68 108 i (.agg (hV zH).toArray) Tryz.underlying68 hi h1 .i64 .i64 (n : Int) (n : Int) (by omega) (Int.le_refl _) (by rw [h3]; omega) (by omega), ?_, fun j h hj k v hv => ?_⟩
  · rw [h2, Int.toNat_natCast]
    simp [madeCells]
  · have hk : k < 13 := by
      have := (List.getElem?_eq_some_iff.1 hv).1
      rw [hV_len] at this
      exact this
    obtain ⟨hl, he⟩ := List.getElem?_eq_some_iff.1 hj
    rw [List.length_replicate] at hl
    rw [List.getElem_replicate] at he
    subst he
    rw [h2, Int.toNat_natCast]
    have hz : (Value.agg (hV zH).toArray).cells = (hV zH).toArray := rfl
    rw [hz]
    have hlt : j * 13 + k < n * 13 := by omega
    simp only [madeCells]
    rw [Array.getElem?_eq_getElem (by simpa using hlt)]
    have hk13 : (j * 13 + k) % 13 = k := by omega
    simp
    rw [hV_len, hk13, hv]
    rfl
/-- six cells of a list are stored -/
theorem rn_store6 {ev : Operand → Value} {o : Oper} {w : World} {x y : Operand} {g i : Nat} {l : List Hd} {r : Rp} (ho : o.op = .store 105 x y) (hx : ev x = .pointer (some ⟨g, i, none⟩)) (hy : ev y = .agg (rV r).toArray) (hA : AllAt w g l) (hi : i + 6 ≤ l.length * 13) : (execOp ev o).run Tryz.prog w = .ok .skip (set6 w g i r) := by
  obtain ⟨cs, h0, h2⟩ := hA
  have hz := h2.size
  have g0 : ∀ {cs' : Array Value} {W : World}, Has W g cs' 108 → cs'.size = cs.size → ∀ k, k < 6 → ∃ v, W.cell? ⟨g, i + k, none⟩ = some v := fun hh hs k hk => ⟨_, (hh.cell (i + k)).trans (Array.getElem?_eq_getElem (by omega))⟩
  have h1 := h0.set i (.bool r.sd)
  have h2' := h1.set (i + 1) (.int .i64 r.b.e)
  have h3 := h2'.set (i + 2) (.int .i64 r.b.g)
  have h4 := h3.set (i + 3) (.int .i64 r.b.k)
  have h5 := h4.set (i + 4) (.int .i64 r.b.n)
  obtain ⟨x0, c0⟩ := g0 h0 rfl 0 (by omega)
  obtain ⟨x1, c1⟩ := g0 h1 (by simp) 1 (by omega)
  obtain ⟨x2, c2⟩ := g0 h2' (by simp) 2 (by omega)
  obtain ⟨x3, c3⟩ := g0 h3 (by simp) 3 (by omega)
  obtain ⟨x4, c4⟩ := g0 h4 (by simp) 4 (by omega)
  obtain ⟨x5, c5⟩ := g0 h5 (by simp) 5 (by omega)
  have f0 := h0.frozen i
  have f1 := h1.frozen (i + 1)
  have f2 := h2'.frozen (i + 2)
  have f3 := h3.frozen (i + 3)
  have f4 := h4.frozen (i + 4)
  have f5 := h5.frozen (i + 5)
  rw [Nat.add_zero] at c0
  obtain ⟨rs, re, rg, rk, rn, rp⟩ := r
  unfold rV bV at hy
  unfold set6
  simp only at *
  simp [execOp, ho, hx, hy, go_sem, c0, c1, c2, c3, c4, c5, f0, f1, f2, f3, f4, f5]
theorem wp_store6 {o : Oper} {a : Act} {w : World} {K : Act → World → Prop} {Q : Exit → Act → World → Prop} {x y : Operand} {g i : Nat} {l : List Hd} {r : Rp} (ho : o.op = .store 105 x y) (hd : o.dst = none) (hx : a.eval x = .pointer (some ⟨g, i, none⟩)) (hy : a.eval y = .agg (rV r).toArray) (hA : AllAt w g l) (hi : i + 6 ≤ l.length * 13) (h : K a (set6 w g i r)) : o.wp Tryz.prog a w K Q := by
  unfold Oper.wp
  rw [rn_store6 ho hx hy hA hi]
  show K (a.put o.dst undef) (set6 w g i r)
  rw [hd]
  exact h
end Go.Proofs.YtmpgfpmkmgebdaaGreatDoor
