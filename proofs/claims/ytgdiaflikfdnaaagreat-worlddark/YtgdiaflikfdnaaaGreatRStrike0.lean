/- The document's Strike: what is refused, and the faults that turn no object. -/
import Derived.Test.YtgdiaflikfdnaaaGreatRCrash
namespace Go.Proofs.YtgdiaflikfdnaaaGreat
open Go.RowKit Go.Maps
set_option maxHeartbeats 2000000 in
set_option maxRecDepth 20000 in
theorem rstrike_bad (b : Nat) (k t n a c : Int) (h : badF k n a c = true) (w : World) : Calls Tryz.prog 74 #[ptr b, fv k t n a c] w fun e w' => e = .returned (er 1) ∧ Below w.heap.size w w' := by
  have HB := hid (boxed w (.cells #[.int .u8 k, .int .i64 t, .int .i64 n, .int .i64 a, .int .i64 c] 38))
  unfold badF badN at h
  unfold ptr fv er
  by_cases h0 : k < 1
  · clear h
    go_enter Tryz.func74, Tryz.ntmps74
    go_wp2_with fail
    go_ret
    exact ⟨rfl, HB.out⟩
  · have d0 : decide (k < 1) = false := decide_eq_false h0
    by_cases h7 : 7 < k
    · clear h
      go_enter Tryz.func74, Tryz.ntmps74
      go_wp2_with fail
      go_ret
      exact ⟨rfl, HB.out⟩
    · have d7 : decide (7 < k) = false := decide_eq_false h7
      by_cases j1 : n < 0
      · clear h
        go_enter Tryz.func74, Tryz.ntmps74
        go_wp2_with fail
        go_ret
        exact ⟨rfl, HB.out⟩
      · have d1 : decide (n < 0) = false := decide_eq_false j1
        by_cases j2 : a < 0
        · clear h
          go_enter Tryz.func74, Tryz.ntmps74
          go_wp2_with fail
          go_ret
          exact ⟨rfl, HB.out⟩
        · have d2 : decide (a < 0) = false := decide_eq_false j2
          by_cases j3 : c < 0
          · clear h
            go_enter Tryz.func74, Tryz.ntmps74
            go_wp2_with fail
            go_ret
            exact ⟨rfl, HB.out⟩
          · have d3 : decide (c < 0) = false := decide_eq_false j3
            have j4 : 255 < c := by
              rw [d0, d7, d1, d2, d3] at h
              simpa using h
            clear h
            go_enter Tryz.func74, Tryz.ntmps74
            go_wp2_with fail
            go_ret
            exact ⟨rfl, HB.out⟩
/-- what stands for good is another row -/
theorem rf_good {w W : World} {S : Nat → Prop} {b : Nat} {r : Rf} (h : IsRf w S b r) (hb : Below w.heap.size w W) {v : Value} {M : List Ob} (hr : W.ownsRow w.heap.size 35 2 v M.length (objCells M)) : AfterR w (W.setCell ⟨b, 0, none⟩ v) S b { r with good := M } := by
  obtain ⟨gv, wv, h1, h2, h3, h4, h5, h6, h7⟩ := h.below hb
  refine ⟨fun i => S i ∨ (w.heap.size ≤ i ∧ i < W.heap.size), ⟨v, wv, h1.set 0 v, row_setb (row_base hr (Nat.zero_le _)) h1 (by decide) 0 v, row_setb h3 h1 (by decide) 0 v, .inl h4, fun g hg => .inr (row_lt hr hg), fun g hg => .inl (h6 g hg), fun i hi => ?_⟩, fun i hi => ?_, ?_⟩
  · have : i < W.heap.size := by
      rcases hi with hi | hi
      · exact h7 i hi
      · exact hi.2
    simpa [World.setCell] using this
  · rcases hi with hi | hi
    · exact .inl hi
    · exact .inr hi.1
  · exact (Only.of_below hb).set (p := ⟨b, 0, none⟩) (.inl h4) v
set_option maxHeartbeats 2000000 in
set_option maxRecDepth 20000 in
theorem rstrike_wipe {w : World} {S : Nat → Prop} {b : Nat} {r : Rf} (h : IsRf w S b r) (hN : r.good.length + r.writes.length ≤ 1000000) (t : Int) (n a c : Nat) (hc : c < 256) : Calls Tryz.prog 74 #[ptr b, fv 1 t (n : Int) (a : Int) (c : Int)] w fun e w' => e = .returned (er 0) ∧ AfterR w w' S b { r with good := [], writes := [] } := by
  have d1 : decide ((n : Int) < 0) = false := decide_eq_false (by omega)
  have d2 : decide ((a : Int) < 0) = false := decide_eq_false (by omega)
  have d3 : decide ((c : Int) < 0) = false := decide_eq_false (by omega)
  have d4 : decide ((255 : Int) < (c : Int)) = false := decide_eq_false (by omega)
  have HB := hid (boxed w (.cells #[.int .u8 1, .int .i64 t, .int .i64 (n : Int), .int .i64 (a : Int), .int .i64 (c : Int)] 38))
  have HI := hid (h.below HB.out)
  have HO := refObjects_any HI.out hN
  have HBx := Has.new w w.heap.size #[.int .u8 1, .int .i64 t, .int .i64 (n : Int), .int .i64 (a : Int), .int .i64 (c : Int)] 38 rfl
  have HX := hid HBx
  have HS7 : Hid (b < w.heap.size) := hid (by obtain ⟨_, _, hh, _⟩ := h; exact hh.lt)
  clear h HBx
  unfold er fv
  unfold ptr at *
  go_enter Tryz.func74, Tryz.ntmps74
  go_wp2_with fail
  refine HO.mono ?_
  clear HO
  rintro x w1 ⟨v, rfl, hr, hb⟩
  obtain ⟨va, vc, rfl⟩ := row_slice hr
  have HA := hid (AfterR.good HI.out hr hb)
  have hx1 : Has w1 w.heap.size #[.int .u8 1, .int .i64 t, .int .i64 (n : Int), .int .i64 (a : Int), .int .i64 (c : Int)] 38 := HX.out.below hb HX.out.lt
  obtain ⟨gv', wv', h1, _⟩ := HI.out.below hb
  generalize (seenR r).length = L at *
  have hbne : w.heap.size ≠ b := fun e => by have := HS7.out; omega
  have f0 := h1.frozen 0
  have k0 : w1.cell? ⟨b, 0, none⟩ = some gv' := h1.cell 0
  have g1 := h1.set 0 (.slice va L vc)
  have f1 := g1.frozen 1
  have k1 : (w1.setCell ⟨b, 0, none⟩ (.slice va L vc)).cell? ⟨b, 1, none⟩ = some wv' := g1.cell 1
  have g2 := g1.set 1 (.slice none 0 0)
  have f2 := g2.frozen 0
  have k2 : ((w1.setCell ⟨b, 0, none⟩ (.slice va L vc)).setCell ⟨b, 1, none⟩ (.slice none 0 0)).cell? ⟨b, 0, none⟩ = some (.slice va L vc) := g2.cell 0
  have hx3 := (hx1.other ⟨b, 0, none⟩ (.slice va L vc) hbne).other ⟨b, 1, none⟩ (.slice none 0 0) hbne
  have x0 : ((w1.setCell ⟨b, 0, none⟩ (.slice va L vc)).setCell ⟨b, 1, none⟩ (.slice none 0 0)).cell? ⟨w.heap.size, 0, none⟩ = some (.int .u8 1) := hx3.cell 0
  clear hr hb h1 g1 g2 hx1 hx3 HX hbne
  go_wp2_with fail
  go_ret
  refine ⟨rfl, AfterR.front HB.out (HA.out.then fun S' h' => ?_)⟩
  exact rf_good h' (Below.refl _ _) (World.ownsRow_nil _ _ _ _)
set_option maxHeartbeats 2000000 in
set_option maxRecDepth 20000 in
theorem rstrike_rest {w : World} {S : Nat → Prop} {b : Nat} {r : Rf} (h : IsRf w S b r) (k : Int) (hk : k = 4 ∨ k = 5 ∨ k = 6 ∨ k = 7) (t : Int) (n a c : Nat) (hc : c < 256) : Calls Tryz.prog 74 #[ptr b, fv k t (n : Int) (a : Int) (c : Int)] w fun e w' => e = .returned (er 0) ∧ AfterR w w' S b (match k with
  | 4 => { r with down := true }
  | 5 => { r with down := false }
  | 6 => { r with ahead := some n }
  | _ => { r with room := some n }) := by
  have d1 : decide ((n : Int) < 0) = false := decide_eq_false (by omega)
  have d2 : decide ((a : Int) < 0) = false := decide_eq_false (by omega)
  have d3 : decide ((c : Int) < 0) = false := decide_eq_false (by omega)
  have d4 : decide ((255 : Int) < (c : Int)) = false := decide_eq_false (by omega)
  have HB := hid (boxed w (.cells #[.int .u8 k, .int .i64 t, .int .i64 (n : Int), .int .i64 (a : Int), .int .i64 (c : Int)] 38))
  have HI := hid (h.below HB.out)
  obtain ⟨gv, wv, h1, _⟩ := HI.out
  have f2 := h1.frozen 2
  have f3 := h1.frozen 3
  have f4 := h1.frozen 4
  have k2 := h1.cell 2
  have k3 := h1.cell 3
  have k4 := h1.cell 4
  have k2' : (w.alloc (.cells #[.int .u8 k, .int .i64 t, .int .i64 (n : Int), .int .i64 (a : Int), .int .i64 (c : Int)] 38)).cell? ⟨b, 2, none⟩ = some (.bool r.down) := k2
  have k3' : (w.alloc (.cells #[.int .u8 k, .int .i64 t, .int .i64 (n : Int), .int .i64 (a : Int), .int .i64 (c : Int)] 38)).cell? ⟨b, 3, none⟩ = some (.int .i64 (less1 r.ahead)) := k3
  have k4' : (w.alloc (.cells #[.int .u8 k, .int .i64 t, .int .i64 (n : Int), .int .i64 (a : Int), .int .i64 (c : Int)] 38)).cell? ⟨b, 4, none⟩ = some (.int .i64 (less1 r.room)) := k4
  clear h h1 k2 k3 k4
  unfold er fv
  unfold ptr at *
  rcases hk with rfl | rfl | rfl | rfl
  · have HA := hid (AfterR.front HB.out (AfterR.turn HI.out 2 (.bool true) { r with down := true } ⟨rfl, rfl⟩ fun _ _ => rfl))
    go_enter Tryz.func74, Tryz.ntmps74
    go_wp2_with fail
    go_ret
    exact ⟨rfl, HA.out⟩
  · have HA := hid (AfterR.front HB.out (AfterR.turn HI.out 2 (.bool false) { r with down := false } ⟨rfl, rfl⟩ fun _ _ => rfl))
    go_enter Tryz.func74, Tryz.ntmps74
    go_wp2_with fail
    go_ret
    exact ⟨rfl, HA.out⟩
  · have HA := hid (AfterR.front HB.out (AfterR.turn HI.out 3 (.int .i64 (n : Int)) { r with ahead := some n } ⟨rfl, rfl⟩ fun _ _ => rfl))
    go_enter Tryz.func74, Tryz.ntmps74
    go_wp2_with fail
    go_ret
    exact ⟨rfl, HA.out⟩
  · have HA := hid (AfterR.front HB.out (AfterR.turn HI.out 4 (.int .i64 (n : Int)) { r with room := some n } ⟨rfl, rfl⟩ fun _ _ => rfl))
    go_enter Tryz.func74, Tryz.ntmps74
    go_wp2_with fail
    go_ret
    exact ⟨rfl, HA.out⟩
end Go.Proofs.YtgdiaflikfdnaaaGreat
