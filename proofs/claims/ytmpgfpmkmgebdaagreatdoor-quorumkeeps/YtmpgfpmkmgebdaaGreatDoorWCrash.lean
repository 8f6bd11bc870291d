/- The contract of Strike. -/
import Derived.Test.YtmpgfpmkmgebdaaGreatDoorWFault
import Derived.Laws.EntriesVeiled
import Derived.RangeFuncNested
import Derived.RangeFuncBound
import Derived.RangeFuncCalls
import Derived.RangeFuncLeaves
import Derived.Shelf.Abstract
import Derived.Shelf.RegionOpen
import Derived.OwnWalkIn
import Derived.TacticsInMore
import Derived.LoopNIn
import Derived.LoopIn
namespace Go.Proofs.YtmpgfpmkmgebdaaGreatDoor.W
open Go.RowKit Go.Maps
def fn (f : Nat) : Value := .func (.func f) #[] #[]
def tab : List Value := [.nilFunc, fn 87, fn 88, fn 89, fn 90, fn 91, fn 92, fn 93]
theorem info70 : (Tryz.prog.info? 134).map (·.size) = some 8 := by kernel_rfl
set_option maxRecDepth 20000 in
theorem deeds_any (w : World) : Calls Tryz.prog 64 #[] w fun e w' => e = .returned (.agg tab.toArray) ∧ Below w.heap.size w w' := by
  unfold tab fn
  go_enter Tryz.func64, Tryz.ntmps64
  go_wp2_with fail
  refine ret_one (b := w.heap.size) (cs := tab) rfl rfl rfl (Has.new w _ tab.toArray 134 rfl).ranged Tryz.underlying134 rfl info70 ⟨rfl, boxed _ _⟩
theorem tab_cell {kk : Nat} (h1 : 1 ≤ kk) (h7 : kk ≤ 7) : tab[kk]? = some (fn (86 + kk)) := by
  have : kk = 1 ∨ kk = 2 ∨ kk = 3 ∨ kk = 4 ∨ kk = 5 ∨ kk = 6 ∨ kk = 7 := by omega
  rcases this with rfl | rfl | rfl | rfl | rfl | rfl | rfl <;> rfl
theorem eqf (f : Nat) (w : World) : (binOp .eql 133 (.func (.func f) #[] #[]) .nilFunc).run Tryz.prog w = .ok (.bool false) w := by kernel_rfl
theorem eqf0 (w : World) : (binOp .eql 133 .nilFunc .nilFunc).run Tryz.prog w = .ok (.bool true) w := by kernel_rfl
def badN (n a c : Int) : Bool := decide (n < 0) || (decide (a < 0) || (decide (c < 0) || decide (255 < c)))
def badF (k n a c : Int) : Bool := decide (k < 1) || (decide (7 < k) || badN n a c)
/-- what is there behind the first two lines of Strike -/
structure StW (w : World) (k t n a c : Int) (w1 : World) : Prop where
  box : Has w1 w.heap.size #[.int .u8 k, .int .i64 t, .int .i64 n, .int .i64 a, .int .i64 c] 43
  bel : Below w.heap.size w w1
theorem StW.tab {w w1 : World} {k t n a c : Int} (h : StW w k t n a c w1) : Has (w1.alloc (.cells tab.toArray 134)) w.heap.size #[.int .u8 k, .int .i64 t, .int .i64 n, .int .i64 a, .int .i64 c] 43 ∧ Has (w1.alloc (.cells tab.toArray 134)) w1.heap.size tab.toArray 134 ∧ Below w.heap.size w (w1.alloc (.cells tab.toArray 134)) :=
  ⟨h.box.alloc _, Has.new _ _ _ _ rfl, h.bel.trans ((boxed _ _).mono h.bel.size)⟩
set_option maxHeartbeats 2000000 in
set_option maxRecDepth 20000 in
theorem strike_bad (b : Nat) (k t n a c : Int) (hk0 : 0 ≤ k) (hk : k < 256) (h : badF k n a c = true) (w : World) : Calls Tryz.prog 35 #[ptr b, fv k t n a c] w fun e w' => e = .returned (er 1) ∧ Below w.heap.size w w' := by
  have hD : Calls Tryz.prog 64 #[] (w.alloc (.cells #[.int .u8 k, .int .i64 t, .int .i64 n, .int .i64 a, .int .i64 c] 43)) fun e w' => e = .returned (.agg tab.toArray) ∧ StW w k t n a c w' := (deeds_any _).mono fun e w' ⟨h1, h2⟩ => ⟨h1, (Has.new w _ #[.int .u8 k, .int .i64 t, .int .i64 n, .int .i64 a, .int .i64 c] 43 rfl).below h2 (by simp), (boxed _ _).trans (h2.mono (by simp))⟩
  unfold badF badN at h
  unfold ptr fv er
  by_cases h7 : 7 < k
  · have q : (8 : Int) ≤ k := by omega
    clear h
    go_enter Tryz.func35, Tryz.ntmps35
    go_wp2_with fail
    refine hD.mono ?_
    rintro e w1 ⟨rfl, hw⟩
    obtain ⟨g1, g2, g3⟩ := hw.tab
    obtain ⟨x0, x1, x2, x3, x4⟩ := five_cells g1
    have HB1 := hid g3
    unfold tab fn at *
    clear hD hw g1 g2 g3
    go_wp2_with fail
    go_ret
    exact ⟨rfl, HB1.out⟩
  · have q : ¬ (8 : Int) ≤ k := by omega
    by_cases h0 : k < 1
    · obtain rfl : k = 0 := by omega
      clear h
      go_enter Tryz.func35, Tryz.ntmps35
      go_wp2_with fail
      refine hD.mono ?_
      rintro e w1 ⟨rfl, hw⟩
      obtain ⟨g1, g2, g3⟩ := hw.tab
      obtain ⟨x0, x1, x2, x3, x4⟩ := five_cells g1
      have y0 := g2.cell 0
      have hq0 := eqf0
      have HB1 := hid g3
      unfold tab fn at *
      clear hD hw g1 g2 g3
      go_wp2_with fail
      go_ret
      exact ⟨rfl, HB1.out⟩
    · obtain ⟨kk, rfl⟩ := Int.eq_ofNat_of_zero_le hk0
      have hk1 : 1 ≤ kk := by omega
      have hk7 : kk ≤ 7 := by omega
      have hk8 : (kk : Int) < 8 := by omega
      rw [decide_eq_false h0, decide_eq_false h7, Bool.false_or, Bool.false_or] at h
      have hH := hid h
      clear h
      go_enter Tryz.func35, Tryz.ntmps35
      go_wp2_with fail
      refine hD.mono ?_
      rintro e w1 ⟨rfl, hw⟩
      obtain ⟨g1, g2, g3⟩ := hw.tab
      obtain ⟨x0, x1, x2, x3, x4⟩ := five_cells g1
      have y0 : (w1.alloc (.cells tab.toArray 134)).cell? ⟨w1.heap.size, kk, none⟩ = some (fn (86 + kk)) := by
        rw [g2.cell kk]; simpa using tab_cell hk1 hk7
      have HB1 := hid g3
      generalize 86 + kk = f at *
      unfold tab fn at *
      have hqf := eqf f
      have q8 : decide ((8 : Int) ≤ (kk : Int)) = false := decide_eq_false (by omega)
      clear hD hw g1 g2 g3 h0 h7 hk
      by_cases j1 : n < 0
      · clear hH
        go_wp2_with fail
        go_ret
        exact ⟨rfl, HB1.out⟩
      · have d1 : decide (n < 0) = false := decide_eq_false j1
        by_cases j2 : a < 0
        · clear hH
          go_wp2_with fail
          go_ret
          exact ⟨rfl, HB1.out⟩
        · have d2 : decide (a < 0) = false := decide_eq_false j2
          by_cases j3 : c < 0
          · clear hH
            go_wp2_with fail
            go_ret
            exact ⟨rfl, HB1.out⟩
          · have d3 : decide (c < 0) = false := decide_eq_false j3
            have j4 : 255 < c := by
              have := hH.out
              rw [d1, d2, d3] at this
              simpa using this
            clear hH
            go_wp2_with fail
            go_ret
            exact ⟨rfl, HB1.out⟩
section
variable {ev : Operand → Value} {o : Oper} {w : World} {x y z : Operand}
theorem rn_ix70 {g k : Nat} (ho : o.op = .indexAddr 134 x y) (hx : ev x = .pointer (some ⟨g, 0, none⟩)) (hy : ev y = .int .u8 (k : Int)) (hk : k < 8) : (execOp ev o).run Tryz.prog w = .ok (.value (.pointer (some ⟨g, k, none⟩))) w := by
  have q1 : (k : Int) < 8 := by omega
  simp [execOp, ho, hx, hy, go_sem, q1]
end
def strF (B T b kk f : Nat) (fw : Value) (i : Nat) (v : Value) (_ : World) : Prop := match i with
  | 38 => v = ptr B
  | 39 => v = .int .u8 (kk : Int)
  | 40 => v = .pointer (some ⟨T, kk, none⟩)
  | 41 => v = .func (.func f) #[] #[]
  | 42 => v = ptr b
  | 43 => v = fw
  | _ => True
set_option maxHeartbeats 2000000 in
set_option maxRecDepth 20000 in
theorem strike_go {w : World} {S : Nat → Prop} {b : Nat} {s : St} (h : IsSt w S b s) (kk : Nat) (hk1 : 1 ≤ kk) (hk7 : kk ≤ 7) (t : Int) (n a c : Nat) (hc : c < 256) (s' : St)
    (hcall : ∀ W, IsSt W S b s → Calls Tryz.prog (86 + kk) #[ptr b, fv (kk : Int) t n a c] W fun e w' => e = .returned (.tuple #[]) ∧ After W w' S b s') (hent : ∀ (args : Array Value) (w : World), (callFunc (86 + kk) args).run Tryz.prog w = .ok (.enter (86 + kk) args) w) : Calls Tryz.prog 35 #[ptr b, fv (kk : Int) t n a c] w fun e w' => e = .returned (er 0) ∧ After w w' S b s' := by
  have hD : Calls Tryz.prog 64 #[] (w.alloc (.cells #[.int .u8 (kk : Int), .int .i64 t, .int .i64 (n : Int), .int .i64 (a : Int), .int .i64 (c : Int)] 43)) fun e w' => e = .returned (.agg tab.toArray) ∧ StW w (kk : Int) t n a c w' := (deeds_any _).mono fun e w' ⟨h1, h2⟩ => ⟨h1, (Has.new w _ #[.int .u8 (kk : Int), .int .i64 t, .int .i64 (n : Int), .int .i64 (a : Int), .int .i64 (c : Int)] 43 rfl).below h2 (by simp), (boxed _ _).trans (h2.mono (by simp))⟩
  have HI := hid h
  have HC := hid hcall
  clear h hcall
  have q8 : decide ((8 : Int) ≤ (kk : Int)) = false := decide_eq_false (by omega)
  have q9 : ¬ (8 : Int) ≤ (kk : Int) := by omega
  have q10 : (kk : Int) < 8 := by omega
  have hk8 : kk < 8 := by omega
  have d1 : ¬ (n : Int) < 0 := by omega
  have d2 : ¬ (a : Int) < 0 := by omega
  have d3 : ¬ (c : Int) < 0 := by omega
  have d4 : ¬ (255 : Int) < (c : Int) := by omega
  unfold ptr fv er
  go_enter Tryz.func35, Tryz.ntmps35
  go_wp2_with fail
  refine hD.mono ?_
  rintro e w1 ⟨rfl, hw⟩
  obtain ⟨g1, g2, g3⟩ := hw.tab
  obtain ⟨x0, x1, x2, x3, x4⟩ := five_cells g1
  have y0 : (w1.alloc (.cells tab.toArray 134)).cell? ⟨w1.heap.size, kk, none⟩ = some (fn (86 + kk)) := by
    rw [g2.cell kk]; simpa using tab_cell hk1 hk7
  have HB1 := hid g3
  have hqf := eqf (86 + kk)
  generalize 86 + kk = f at *
  unfold tab fn at *
  clear hD hw g1 g2 g3
  go_wp2_with fail
  generalize hW2 : w1.alloc (.cells #[.nilFunc, .func (.func 87) #[] #[], .func (.func 88) #[] #[], .func (.func 89) #[] #[], .func (.func 90) #[] #[], .func (.func 91) #[] #[], .func (.func 92) #[] #[], .func (.func 93) #[] #[]] 134) = W2 at *
  refine Tl.wp_mix_lit (by kernel_rfl) 6 [38, 39, 40, 41, 42, 43] 45 rfl (by kernel_rfl) (AtW W2.drew) (strF w.heap.size w1.heap.size b kk f (.agg #[.int .u8 (kk : Int), .int .i64 t, .int .i64 (n : Int), .int .i64 (a : Int), .int .i64 (c : Int)])) rfl
    ⟨fun a' W' hC hF => ?_, fun a' W' hC hF => ?_, fun a' W' hC hF => ?_, fun a' W' hC hF => ?_, fun a' W' hC hF => ?_, fun a' W' hC hF => ?_, trivial⟩ ?_
  · exact Tl.sm_v 38 _ rfl (Tl.wanted_none rfl) hC rfl (rn_f32_0 rfl ((hF 3 (by decide +kernel)).2 (by decide)))
  · exact Tl.sm_v 39 _ rfl (Tl.wanted_none rfl) hC rfl (rn_load5 rfl ((hF 38 (by decide +kernel)).1 (by decide)) (by rw [show W' = _ from hC]; exact x0))
  · exact Tl.sm_v 40 _ rfl (Tl.wanted_none rfl) hC rfl (rn_ix70 rfl ((hF 5 (by decide +kernel)).2 (by decide)) ((hF 39 (by decide +kernel)).1 (by decide)) hk8)
  · exact Tl.sm_v 41 _ rfl (Tl.wanted_none rfl) hC rfl (rn_load69 rfl ((hF 40 (by decide +kernel)).1 (by decide)) (by rw [show W' = _ from hC]; exact y0))
  · exact Tl.sm_v 42 _ rfl (Tl.wanted_none rfl) hC rfl (rn_move rfl ((hF 0 (by decide +kernel)).2 (by decide)))
  · exact Tl.sm_v 43 _ rfl (Tl.wanted_none rfl) hC rfl (rn_load32 rfl ((hF 3 (by decide +kernel)).2 (by decide)) (by rw [show W' = _ from hC]; exact x0) (by rw [show W' = _ from hC]; exact x1) (by rw [show W' = _ from hC]; exact x2) (by rw [show W' = _ from hC]; exact x3) (by rw [show W' = _ from hC]; exact x4))
  intro v wB hw hv
  obtain rfl : wB = _ := hw
  have v41 : v 41 = .func (.func f) #[] #[] := hv 41 (by decide)
  have v42 : v 42 = .pointer (some ⟨b, 0, none⟩) := hv 42 (by decide)
  have v43 : v 43 = .agg #[.int .u8 (kk : Int), .int .i64 t, .int .i64 (n : Int), .int .i64 (a : Int), .int .i64 (c : Int)] := hv 43 (by decide)
  have hA := HC.out W2.drew (HI.out.below HB1.out).drew
  unfold ptr fv at hA
  clear hv x0 x1 x2 x3 x4 y0 hW2 HC
  simp only [Tl.fill, List.drop_succ_cons, List.drop_zero]
  simp only [Act.put, List.setIfInBounds_toArray, List.set_cons_succ, List.set_cons_zero, v41, v42, v43]
  go_wp2_with fail
  refine hA.mono ?_
  rintro e w3 ⟨rfl, hA3⟩
  have HF := hid (hA3.front HB1.out.drew)
  clear hA hA3
  go_wp2_with fail
  go_ret
  exact ⟨rfl, HF.out⟩
def strikeS (s : St) (k n a c : Int) : Int × St := if badF k n a c then (1, s) else (0, match k with
  | 1 => { s with seen := [], writes := [], live := false }
  | 2 => loseS s n.toNat
  | 3 => bendS s n.toNat a.toNat c.toNat
  | 4 => { s with down := true }
  | 5 => { s with down := false }
  | 6 => { s with refuse := some n.toNat }
  | _ => { s with room := some n.toNat })
theorem strike_any {w : World} {S : Nat → Prop} {b : Nat} {s : St} (h : IsSt w S b s) {N : Nat} (hF : Fit N s) (hN : N ≤ 1000000) (k t n a c : Int) (hk0 : 0 ≤ k) (hk : k < 256) (hn : n < 9223372036854775808) (ha : a < 9223372036854775808) : Calls Tryz.prog 35 #[ptr b, fv k t n a c] w fun e w' => e = .returned (er (strikeS s k n a c).1) ∧ After w w' S b (strikeS s k n a c).2 := by
  unfold strikeS
  cases hb : badF k n a c with
  | true => exact (strike_bad b k t n a c hk0 hk hb w).mono fun e w' ⟨h1, h2⟩ => ⟨h1, After.of_below h h2⟩
  | false =>
    have hb' := hb
    unfold badF badN at hb'
    simp only [Bool.or_eq_false_iff, decide_eq_false_iff_not] at hb'
    obtain ⟨b1, b2, b3, b4, b5, b6⟩ := hb'
    obtain ⟨kk, rfl⟩ := Int.eq_ofNat_of_zero_le hk0
    obtain ⟨n', rfl⟩ := Int.eq_ofNat_of_zero_le (show 0 ≤ n by omega)
    obtain ⟨a', rfl⟩ := Int.eq_ofNat_of_zero_le (show 0 ≤ a by omega)
    obtain ⟨c', rfl⟩ := Int.eq_ofNat_of_zero_le (show 0 ≤ c by omega)
    have hs := Nat.le_trans hF.seen hN
    have : kk = 1 ∨ kk = 2 ∨ kk = 3 ∨ kk = 4 ∨ kk = 5 ∨ kk = 6 ∨ kk = 7 := by omega
    rcases this with rfl | rfl | rfl | rfl | rfl | rfl | rfl
    · exact strike_go h 1 (by omega) (by omega) t n' a' c' (by omega) _ (fun W hW => wipe_any hW _ _ _ _ _) (fun _ _ => by kernel_rfl)
    · exact strike_go h 2 (by omega) (by omega) t n' a' c' (by omega) _ (fun W hW => lose_any hW hs hF.names _ _ n' _ _ (by omega)) (fun _ _ => by kernel_rfl)
    · exact strike_go h 3 (by omega) (by omega) t n' a' c' (by omega) _ (fun W hW => bend_any hW hs hF.names hF.datas _ _ n' a' c' (by omega) (by omega) (by omega)) (fun _ _ => by kernel_rfl)
    · exact strike_go h 4 (by omega) (by omega) t n' a' c' (by omega) _ (fun W hW => goDown_any hW _ _ _ _ _) (fun _ _ => by kernel_rfl)
    · exact strike_go h 5 (by omega) (by omega) t n' a' c' (by omega) _ (fun W hW => comeUp_any hW _ _ _ _ _) (fun _ _ => by kernel_rfl)
    · exact strike_go h 6 (by omega) (by omega) t n' a' c' (by omega) _ (fun W hW => refuseOne_any hW _ _ n' _ _) (fun _ _ => by kernel_rfl)
    · exact strike_go h 7 (by omega) (by omega) t n' a' c' (by omega) _ (fun W hW => takeRoom_any hW _ _ n' _ _) (fun _ _ => by kernel_rfl)
end Go.Proofs.YtmpgfpmkmgebdaaGreatDoor.W
/- The iterator slices.Backward over a row of writes. -/
namespace Go.Proofs.YtmpgfpmkmgebdaaGreatDoor.W
open Go.RowKit Go.Maps
/-- what a round is handed: a place, and a write -/
abbrev Itm (ws : List Wr) := { p : Nat × Wr // p.2 ∈ ws }
def itmV {ws : List Wr} (x : Itm ws) : Array Value := #[.int .i64 (x.1.1 : Int), .agg (wcells x.1.2).toArray]
theorem flat_get : ∀ (ws : List Wr) (k : Nat) (q : Wr), ws[k]? = some q → ∀ j u, (wcells q)[j]? = some u → (ws.flatMap wcells)[k * 5 + j]? = some u
  | [], k, q, h => by simp at h
  | p :: r, 0, q, h => by
    simp at h; subst h
    intro j u hu
    have hj : j < (wcells p).length := (List.getElem?_eq_some_iff.1 hu).1
    rw [List.flatMap_cons, Nat.zero_mul, Nat.zero_add, List.getElem?_append_left hj]; exact hu
  | p :: r, k + 1, q, h => by
    intro j u hu
    have := flat_get r k q (by simpa using h) j u hu
    have e : (k + 1) * 5 + j = (wcells p).length + (k * 5 + j) := by simp [wcells]; omega
    rw [List.flatMap_cons, e, List.getElem?_append_right (by omega), Nat.add_sub_cancel_left]
    exact this
theorem wr_cells {w : World} {base : Nat} {v : Value} {ws : List Wr} (h : w.ownsRow base 122 5 v ws.length (ws.flatMap wcells)) {k : Nat} {q : Wr} (hq : ws[k]? = some q) : ∃ g cap, v = .slice (some ⟨g, 0, none⟩) ws.length cap ∧ g < w.heap.size ∧ ∀ j u, (wcells q)[j]? = some u → w.cell? ⟨g, k * 5 + j, none⟩ = some u := by
  rcases row_form h with ⟨_, e, _⟩ | ⟨g, cap, e, hg, _, _, _, hc⟩
  · have := (List.getElem?_eq_some_iff.1 hq).1; omega
  · exact ⟨g, cap, e, hg, fun j u hu => hc _ _ (flat_get ws k q hq j u hu)⟩
set_option maxRecDepth 100000 in
set_option maxHeartbeats 2000000 in
theorem back1_in (n l cb : Nat) (wv : Value) (ws : List Wr) (hws : ws.length ≤ 1000000) (T : Nat → Prop) (J Jx : List (Itm ws) → World → Prop)
    (hY : ∀ pre (x : Itm ws) W, J pre W → pre.length < ws.length → YieldAt Fence.wide (n - 1) Tryz.prog l (itmV x) W fun e W' =>
      (e = .returned (.bool true) ∧ J (pre ++ [x]) W' ∧ Only T W W') ∨ (e = .returned (.bool false) ∧ Jx (pre ++ [x]) W'))
    (W : World) (hcb : Has W cb #[wv] 99) (hrow : W.ownsRow 0 122 5 wv ws.length (ws.flatMap wcells)) (hT1 : ¬ T cb) (hT2 : ∀ g, wv.ownBlock = some g → ¬ T g) (h0 : J [] W) :
    CallsIn Fence.wide n Tryz.prog 80 #[.func (.yield l) #[] #[], .pointer (some ⟨cb, 0, none⟩)] W fun e W' => (∃ v, e = .returned v) ∧
      ((∃ ys : List (Itm ws), ys.map (·.1.2) = ws.reverse ∧ J ys W') ∨ (∃ pre : List (Itm ws), True ∧ Jx pre W')) := by
  have hsa := @Oper.semAt_some
  have c0 := hcb.cell 0
  have hlen : ∀ W', W'.ownsRow 0 122 5 wv ws.length (ws.flatMap wcells) → ∀ ty, (Builtin.len_ #[99] ty #[wv]).run Tryz.prog W' = .ok (.int .i64 (ws.length : Int)) W' := fun W' hr ty => by
    rcases row_form hr with ⟨rfl, e, _⟩ | ⟨g, cap, rfl, _⟩
    · rw [e]; kernel_rfl
    · simp [Builtin.len_, run_underlying Tryz.underlying99, goInt]
  have hl0 := hlen W hrow
  have HC := hid hcb
  have HR := hid hrow
  clear hlen hcb hrow
  refine callsIn_of_wp Tryz.func80 rfl trivial ?_ rfl
  simp only [Tryz.ntmps80, List.size_toArray, List.length_cons, List.length_nil, Nat.reduceAdd, Nat.reduceSub, Array.replicate_succ, Array.replicate_zero, List.push_toArray, List.append_toArray, List.nil_append, List.cons_append]
  gi_wp2
  gi_loopw [3] (fun s3 wr => ∃ (k : Nat) (pre : List (Itm ws)), k ≤ ws.length ∧ pre.length = k ∧ pre.map (·.1.2) = ws.reverse.take k ∧ s3 = .int .i64 ((ws.length : Int) - 1 - (k : Int)) ∧ J pre wr ∧ Only T W wr)
    (fun s3 _ => (intOf s3 + 1).toNat)
  case atStart => exact ⟨0, [], Nat.zero_le _, rfl, by simp, by simp, h0, Only.refl _ _⟩
  case round =>
    obtain ⟨k, pre, hk, hpl, hpm, rfl, hJ, hO⟩ := hrel
    by_cases hkn : k = ws.length
    · subst hkn
      have q1 : ¬ (0 : Int) ≤ (ws.length : Int) - 1 - (ws.length : Int) := by omega
      have q2 : (ws.length : Int) - 1 - (ws.length : Int) = -1 := by omega
      have HP := hid hpm
      clear hpm
      gi_wp2
      go_end0
      exact ⟨⟨_, rfl⟩, .inl ⟨pre, by rw [HP.out, List.take_of_length_le (by simp)], hJ⟩⟩
    · have hlt : k < ws.length := by omega
      obtain ⟨r, hr⟩ : ∃ r : Nat, r = ws.length - 1 - k := ⟨_, rfl⟩
      have q0 : (ws.length : Int) - 1 - (k : Int) = (r : Int) := by omega
      have hr' : r < ws.length := by omega
      obtain ⟨qq, hq⟩ : ∃ q, ws[r]? = some q := ⟨_, List.getElem?_eq_getElem hr'⟩
      have hqm : qq ∈ ws := List.mem_of_getElem? hq
      have HRow : wr.ownsRow 0 122 5 wv ws.length (ws.flatMap wcells) := row_block HR.out fun g hg hl => hO.block g hl (hT2 g hg)
      have HBox : Has wr cb #[wv] 99 := hO.has HC.out hT1
      obtain ⟨g, cap, hv, hg, hc⟩ := wr_cells HRow hq
      have d0 : wr.cell? ⟨g, r * 5, none⟩ = some (.string qq.name) := hc 0 _ rfl
      have d1 := hc 1 _ rfl
      have d2 := hc 2 _ rfl
      have d3 := hc 3 _ rfl
      have d4 := hc 4 _ rfl
      have hb0 := HBox.cell 0
      rw [hv] at hb0
      simp only [List.getElem?_toArray, List.getElem?_cons_zero] at hb0
      obtain ⟨fn, tmps, assign, body, hy, hR⟩ := hY pre ⟨(r, qq), hqm⟩ wr hJ (by omega)
      unfold itmV wcells at hy
      simp only at hy
      have HS : Hid ((pre ++ [(⟨(r, qq), hqm⟩ : Itm ws)]).map (·.1.2) = ws.reverse.take (k + 1)) := hid (by
        rw [List.map_append, hpm, List.take_add_one, List.getElem?_reverse hlt, show ws.length - 1 - k = r from hr.symm, hq]
        rfl)
      have q3 : (r : Int) < (ws.length : Int) := by omega
      have q4 : (0 : Int) ≤ (r : Int) := by omega
      rw [q0]
      clear hc hv hr hpm HRow HBox hq hl0
      gi_wp2
      refine ⟨fun h => by simp [Fence.wide] at h, hR.mono ?_⟩
      rintro e W3 (⟨rfl, hJ3, hk3⟩ | ⟨rfl, hJx3⟩)
      · have O3 := hid (hO.trans hk3 fun _ h => .inl h)
        clear hR hy d0 d1 d2 d3 d4 hb0 hk3 hO
        gi_wp2
        go_roundw
        case rel => exact ⟨k + 1, _, by omega, by simp [hpl], HS.out, by congr 1; omega, hJ3, O3.out⟩
        case measure => first | (simp [intOf]; done) | (simp [intOf]; omega)
      · clear hR hy d0 d1 d2 d3 d4 hb0 hO
        gi_wp2
        refine bodyPost_ret (results_none rfl _ _ _) rfl ?_
        exact ⟨⟨_, rfl⟩, .inr ⟨_, trivial, hJx3⟩⟩
/-- slices.Backward -/
theorem back_stops (n cb : Nat) (wv : Value) (ws : List Wr) (hws : ws.length ≤ 1000000) (T : Nat → Prop) (w : World) (hcb : Has w cb #[wv] 99) (hrow : w.ownsRow 0 122 5 wv ws.length (ws.flatMap wcells)) (hT1 : ¬ T cb) (hT2 : ∀ g, wv.ownBlock = some g → ¬ T g) :
    SeqStopsK Fence.wide n Tryz.prog 80 #[.pointer (some ⟨cb, 0, none⟩)] (itmV (ws := ws)) (Only T) (fun ys => ys.map (·.1.2) = ws.reverse) (fun _ => True) ws.length w := fun l J Jx W hW _ _ hY h0 =>
  back1_in n l cb wv ws hws T J Jx hY W (hcb.below hW hcb.lt) (row_below hrow hW) hT1 hT2 h0
set_option maxRecDepth 20000 in
theorem backward_any (a : Option Addr) (n c : Nat) (w : World) : Calls Tryz.prog 55 #[.slice a n c] w fun e w' => e = .returned (.func (.func 80) #[] #[.pointer (some ⟨w.heap.size, 0, none⟩)]) ∧ w' = w.alloc (.cells #[.slice a n c] 99) := by
  go_enter Tryz.func55, Tryz.ntmps55
  go_wp2_with fail
  go_ret
  exact ⟨rfl, rfl⟩
end Go.Proofs.YtmpgfpmkmgebdaaGreatDoor.W
/- The contract of Crash. -/
namespace Go.Proofs.YtmpgfpmkmgebdaaGreatDoor.W
open Go.RowKit Go.Maps
/-- the store is s now, and lies where it lay -/
def Stay (w w' : World) (S : Nat → Prop) (b : Nat) (s : St) : Prop := IsSt w' S b s ∧ Only S w w'
theorem Stay.front {w w1 w2 : World} {S : Nat → Prop} {b : Nat} {s : St} (hb : Below w.heap.size w w1) (h : Stay w1 w2 S b s) : Stay w w2 S b s := ⟨h.1, (Only.of_below hb).trans h.2 fun _ h => .inl h⟩
theorem Stay.grown {w w' : World} {S : Nat → Prop} {b : Nat} {s : St} {mo : Option Nat} {wv : Value} (h1 : Has w b (scells mo wv s) 103) (h3 : w.ownsRow 0 122 5 wv s.writes.length (s.writes.flatMap wcells)) (h4 : S b) (h5 : ∀ m, mo = some m → S m) (h6 : ∀ g, wv.ownBlock = some g → S g) (h7 : ∀ i, S i → i < w.heap.size) (h8 : mo.isSome = s.live) (hM0 : MapV w mo s.seen) (M : List Ob) (hM : MapV w' mo M) (hg : w.grownBy w' mo) : Stay w w' S b { s with seen := M } := by
  have hne : ∀ m, mo = some m → m ≠ b := fun m hm => by subst hm; exact mapIs_ne hM0 h1
  refine ⟨⟨mo, wv, ?_, hM, row_block h3 fun g hg' hl => hg.block g hl fun e => ?_, h4, h5, h6, fun i hi => Nat.lt_of_lt_of_le (h7 i hi) hg.size, h8⟩, Only.of_grown hg h5⟩
  · have hl := h1.lt
    unfold Has at h1 ⊢
    rw [hg.block b hl fun e => hne b e.symm rfl]; exact h1
  · subst e
    have h0 : MapIs w g s.seen := hM0
    obtain ⟨⟨es, clock, q1, _⟩, _⟩ := h0
    rcases h3.2 with ⟨rfl, _⟩ | ⟨g', cap, cur, rfl, _, h3', _⟩
    · simp [Value.ownBlock] at hg'
    · simp [Value.ownBlock] at hg'
      subst hg'
      rw [q1] at h3'; cases h3'
set_option maxRecDepth 20000 in
theorem live_del {w : World} {S : Nat → Prop} {b : Nat} {s : St} (h : IsSt w S b s) (n : ByteArray) (hn : n.size ≤ maxLen) : Calls Tryz.prog 56 #[ptr b, .string n, cv none] w fun e w' => e = .returned (.tuple #[]) ∧ Stay w w' S b { s with seen := drop n s.seen } := by
  have h' := h.below (boxed w (.cells #[.bool false, .string ⟨#[]⟩] 120))
  obtain ⟨mo, wv, h1, h2, h3, h4, h5, h6, h7, h8⟩ := h'
  obtain ⟨c0, c1, c2, c3, c4, c5, c6⟩ := scells_cell h1
  obtain ⟨w', hrun, r1, r2⟩ := h2.del hn 0
  have hA := hid ((Stay.grown h1 h3 h4 h5 h6 h7 h8 h2 _ r1 r2).front (boxed _ _))
  clear h h1 h2 h3 h4 h5 h6 h7 h8 r1 r2
  unfold ptr cv
  go_enter Tryz.func56, Tryz.ntmps56
  go_wp2_with fail
  refine bodyPost_ret (results_none rfl _ _ _) rfl ?_
  exact ⟨rfl, hA.out⟩
set_option maxRecDepth 20000 in
theorem live_put {w : World} {S : Nat → Prop} {b : Nat} {s : St} (h : IsSt w S b s) (hlv : s.live = true) (n d : ByteArray) (hn : n.size ≤ maxLen) (hl : s.seen.length < maxLen) : Calls Tryz.prog 56 #[ptr b, .string n, cv (some d)] w fun e w' => e = .returned (.tuple #[]) ∧ Stay w w' S b { s with seen := put (n, d) s.seen } := by
  have h' := h.below (boxed w (.cells #[.bool true, .string d] 120))
  have hbox : Has (w.alloc (.cells #[.bool true, .string d] 120)) w.heap.size #[.bool true, .string d] 120 := Has.new _ _ _ _ rfl
  obtain ⟨mo, wv, h1, h2, h3, h4, h5, h6, h7, h8⟩ := h'
  obtain ⟨c0, c1, c2, c3, c4, c5, c6⟩ := scells_cell h1
  have f0 := h1.frozen 0
  have hq := fun (w : World) (p : Option Nat) => run_eql_map_nil_sl (P := Tryz.prog) w 98 9 120 p Tryz.underlying98
  cases mo with
  | some m =>
    obtain ⟨w', hrun, r1, r2⟩ := MapIs.put (w := (w.alloc (.cells #[.bool true, .string d] 120)).drew) h2 hl hn d
    have hA := hid ((Stay.grown (w := (w.alloc (.cells #[.bool true, .string d] 120)).drew) h1 h3 h4 h5 h6 h7 h8 h2 _ (show MapV w' (some m) _ from r1) r2).front (boxed w (.cells #[.bool true, .string d] 120)).drew)
    have b0 := hbox.cell 0
    have b1 := hbox.cell 1
    clear h h1 h2 h3 h4 h5 h6 h7 h8 r1 r2 hlv
    rw [cv_some] at hrun ⊢
    unfold ptr
    go_enter Tryz.func56, Tryz.ntmps56
    go_wp2_with fail
    refine Tl.wp_mix_lit (by kernel_rfl) 6 [23, 24, 25, 26, 27, 28] 29 rfl (by kernel_rfl) (AtW (w.alloc (.cells #[.bool true, .string d] 120)).drew) (setF b m n d) rfl
      ⟨fun a' W' hC hF => ?_, fun a' W' hC hF => ?_, fun a' W' hC hF => ?_, fun a' W' hC hF => ?_, fun a' W' hC hF => ?_, fun a' W' hC hF => ?_, trivial⟩ ?_
    · exact Tl.sm_v 23 _ rfl (Tl.wanted_none rfl) hC rfl (rn_move rfl ((hF 0 (by decide +kernel)).2 (by decide)))
    · exact Tl.sm_v 24 _ rfl (Tl.wanted_none rfl) hC rfl (rn_nilCheck rfl ((hF 23 (by decide +kernel)).1 (by decide)))
    · exact Tl.sm_v 25 _ rfl (Tl.wanted_none rfl) hC rfl (rn_f63_0 rfl ((hF 24 (by decide +kernel)).1 (by decide)))
    · exact Tl.sm_v 26 _ rfl (Tl.wanted_none rfl) hC rfl (rn_load58 rfl ((hF 25 (by decide +kernel)).1 (by decide)) (by rw [show W' = _ from hC]; exact c0))
    · exact Tl.sm_v 27 _ rfl (Tl.wanted_none rfl) hC rfl (rn_move rfl ((hF 1 (by decide +kernel)).2 (by decide)))
    · exact Tl.sm_v 28 _ rfl (Tl.wanted_none rfl) hC rfl (rn_load67 rfl ((hF 5 (by decide +kernel)).2 (by decide)) (by rw [show W' = _ from hC]; exact b0) (by rw [show W' = _ from hC]; exact b1))
    intro v wB hw hv
    obtain rfl : wB = _ := hw
    have v26 : v 26 = .map (some m) := hv 26 (by decide)
    have v27 : v 27 = .string n := hv 27 (by decide)
    have v28 : v 28 = cv (some d) := hv 28 (by decide)
    simp only [Tl.fill, List.drop_succ_cons, List.drop_zero]
    simp only [Act.put, List.setIfInBounds_toArray, List.set_cons_succ, List.set_cons_zero, v26, v27, v28, cv_some]
    go_wp2_with fail
    go_end0
    exact ⟨rfl, hA.out⟩
  | none => rw [hlv] at h8; cases h8
theorem live_any {w : World} {S : Nat → Prop} {b : Nat} {s : St} (h : IsSt w S b s) (hlv : s.live = true) (n : ByteArray) (c : Option ByteArray) (hn : n.size ≤ maxLen) (hl : s.seen.length < maxLen) : Calls Tryz.prog 56 #[ptr b, .string n, cv c] w fun e w' => e = .returned (.tuple #[]) ∧ Stay w w' S b { s with seen := setC n c s.seen } := by
  cases c with
  | none => exact live_del h n hn
  | some d => exact live_put h hlv n d hn hl
set_option maxRecDepth 20000 in
theorem settle_eq {w : World} {S : Nat → Prop} {b : Nat} {s : St} (h : IsSt w S b s) : Calls Tryz.prog 54 #[ptr b] w fun e w' => e = .returned (.tuple #[]) ∧ w' = w.setCell ⟨b, 1, none⟩ (.slice none 0 0) := by
  obtain ⟨mo, wv, h1, _⟩ := h
  obtain ⟨c0, c1, c2, c3, c4, c5, c6⟩ := scells_cell h1
  have f1 := h1.frozen 1
  clear h1
  unfold ptr
  go_enter Tryz.func54, Tryz.ntmps54
  go_wp2_with fail
  go_end0
  exact ⟨rfl, rfl⟩
/-- writes taken back, the last one first -/
def undo (M : List Ob) (l : List Wr) : List Ob := l.foldl (fun M q => setC q.name q.was M) M
/-- one that survives -/
def stepK (ws : List Wr) (ks : List Int) (M : List Ob) (i : Nat) : List Ob := match ws[i]?, ks[i]? with
  | some q, some k => if 0 ≤ k then setC q.name (begun q.now k.toNat) M else M
  | _, _ => M
def redo (ws : List Wr) (ks : List Int) (M : List Ob) (n : Nat) : List Ob := (List.range n).foldl (stepK ws ks) M
def crashS (s : St) (ks : List Int) : St := { s with writes := [], seen := redo s.writes ks (undo s.seen s.writes.reverse) s.writes.length }
theorem redo_succ (ws : List Wr) (ks : List Int) (M : List Ob) (n : Nat) : redo ws ks M (n + 1) = stepK ws ks (redo ws ks M n) n := by
  simp [redo, List.range_succ, List.foldl_append]
theorem undo_snoc (M : List Ob) (l : List Wr) (q : Wr) : undo M (l ++ [q]) = setC q.name q.was (undo M l) := by simp [undo, List.foldl_append]
theorem undo_le (l : List Wr) : ∀ (M : List Ob), (undo M l).length ≤ M.length + l.length := by
  induction l with
  | nil => intro M; exact Nat.le_refl _
  | cons q r ih =>
    intro M
    have h1 := ih (setC q.name q.was M)
    have h2 := length_setC_le q.name q.was M
    unfold undo at h1 ⊢
    rw [List.foldl_cons, List.length_cons]; omega
theorem redo_le (ws : List Wr) (ks : List Int) (M : List Ob) : ∀ n, (redo ws ks M n).length ≤ M.length + n
  | 0 => Nat.le_refl _
  | n + 1 => by
    rw [redo_succ]
    have := redo_le ws ks M n
    have h2 : (stepK ws ks (redo ws ks M n) n).length ≤ (redo ws ks M n).length + 1 := by
      unfold stepK
      split
      · split
        · exact length_setC_le _ _ _
        · omega
      · omega
    omega
/-- a list of numbers that can be read -/
def RdI (w : World) (v : Value) (ks : List Int) : Prop := (∃ A c, v = .slice A 0 c ∧ ks = []) ∨ ∃ g o cap, 0 < ks.length ∧ v = .slice (some ⟨g, o, none⟩) ks.length cap ∧ g < w.heap.size ∧ ∀ j z, ks[j]? = some z → w.cell? ⟨g, o + j, none⟩ = some (.int .i64 z)
end Go.Proofs.YtmpgfpmkmgebdaaGreatDoor.W
