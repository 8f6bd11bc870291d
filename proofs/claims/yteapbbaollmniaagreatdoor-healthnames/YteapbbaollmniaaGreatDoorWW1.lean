/- The contract of Strike. -/
import Derived.Test.YteapbbaollmniaaGreatDoorWFault
import Derived.Laws.EntriesVeiled
import Derived.RangeFuncNested
import Derived.RangeFuncBound
import Derived.RangeFuncCalls
import Derived.RangeFuncLeaves
import Derived.Shelf.Abstract
import Derived.Shelf.RegionOpen
import Derived.OwnWalkIn
import Derived.TacticsInMore
import Derived.LoopNIn
import Derived.LoopIn
import Derived.Laws.StructEq
import Derived.Test.YteapbbaollmniaaGreatDoorWTl
import Derived.Laws.OwnMore
namespace Go.Proofs.YteapbbaollmniaaGreatDoor.W
open Go.RowKit Go.Maps
def fn (f : Nat) : Value := .func (.func f) #[] #[]
def tab : List Value := [.nilFunc, fn 148, fn 149, fn 150, fn 151, fn 152, fn 153, fn 154]
theorem info70 : (Tryz.prog.info? 182).map (·.size) = some 8 := by kernel_rfl
set_option maxRecDepth 20000 in
theorem deeds_any (w : World) : Calls Tryz.prog 105 #[] w fun e w' => e = .returned (.agg tab.toArray) ∧ Below w.heap.size w w' := by
  unfold tab fn
  go_enter Tryz.func105, Tryz.ntmps105
  go_wp2_with fail
  refine ret_one (b := w.heap.size) (cs := tab) rfl rfl rfl (Has.new w _ tab.toArray 182 rfl).ranged Tryz.underlying182 rfl info70 ⟨rfl, boxed _ _⟩
theorem tab_cell {kk : Nat} (h1 : 1 ≤ kk) (h7 : kk ≤ 7) : tab[kk]? = some (fn (147 + kk)) := by
  have : kk = 1 ∨ kk = 2 ∨ kk = 3 ∨ kk = 4 ∨ kk = 5 ∨ kk = 6 ∨ kk = 7 := by omega
  rcases this with rfl | rfl | rfl | rfl | rfl | rfl | rfl <;> rfl
theorem eqf (f : Nat) (w : World) : (binOp .eql 181 (.func (.func f) #[] #[]) .nilFunc).run Tryz.prog w = .ok (.bool false) w := by kernel_rfl
theorem eqf0 (w : World) : (binOp .eql 181 .nilFunc .nilFunc).run Tryz.prog w = .ok (.bool true) w := by kernel_rfl
def badN (n a c : Int) : Bool := decide (n < 0) || (decide (a < 0) || (decide (c < 0) || decide (255 < c)))
def badF (k n a c : Int) : Bool := decide (k < 1) || (decide (7 < k) || badN n a c)
/-- what is there behind the first two lines of Strike -/
structure StW (w : World) (k t n a c : Int) (w1 : World) : Prop where
  box : Has w1 w.heap.size #[.int .u8 k, .int .i64 t, .int .i64 n, .int .i64 a, .int .i64 c] 36
  bel : Below w.heap.size w w1
theorem StW.tab {w w1 : World} {k t n a c : Int} (h : StW w k t n a c w1) : Has (w1.alloc (.cells tab.toArray 182)) w.heap.size #[.int .u8 k, .int .i64 t, .int .i64 n, .int .i64 a, .int .i64 c] 36 ∧ Has (w1.alloc (.cells tab.toArray 182)) w1.heap.size tab.toArray 182 ∧ Below w.heap.size w (w1.alloc (.cells tab.toArray 182)) :=
  ⟨h.box.alloc _, Has.new _ _ _ _ rfl, h.bel.trans ((boxed _ _).mono h.bel.size)⟩
set_option maxHeartbeats 2000000 in
set_option maxRecDepth 20000 in
theorem strike_bad (b : Nat) (k t n a c : Int) (hk0 : 0 ≤ k) (hk : k < 256) (h : badF k n a c = true) (w : World) : Calls Tryz.prog 55 #[ptr b, fv k t n a c] w fun e w' => e = .returned (er 1) ∧ Below w.heap.size w w' := by
  have hD : Calls Tryz.prog 105 #[] (w.alloc (.cells #[.int .u8 k, .int .i64 t, .int .i64 n, .int .i64 a, .int .i64 c] 36)) fun e w' => e = .returned (.agg tab.toArray) ∧ StW w k t n a c w' := (deeds_any _).mono fun e w' ⟨h1, h2⟩ => ⟨h1, (Has.new w _ #[.int .u8 k, .int .i64 t, .int .i64 n, .int .i64 a, .int .i64 c] 36 rfl).below h2 (by simp), (boxed _ _).trans (h2.mono (by simp))⟩
  unfold badF badN at h
  unfold ptr fv er
  by_cases h7 : 7 < k
  · have q : (8 : Int) ≤ k := by omega
    clear h
    go_enter Tryz.func55, Tryz.ntmps55
    go_wp2_with fail
    refine hD.mono ?_
    rintro e w1 ⟨rfl, hw⟩
    obtain ⟨g1, g2, g3⟩ := hw.tab
    obtain ⟨x0, x1, x2, x3, x4⟩ := five_cells g1
    have HB1 := hid g3
    unfold tab fn at *
    clear hD hw g1 g2 g3
    go_wp2_with fail
    go_ret
    exact ⟨rfl, HB1.out⟩
  · have q : ¬ (8 : Int) ≤ k := by omega
    by_cases h0 : k < 1
    · obtain rfl : k = 0 := by omega
      clear h
      go_enter Tryz.func55, Tryz.ntmps55
      go_wp2_with fail
      refine hD.mono ?_
      rintro e w1 ⟨rfl, hw⟩
      obtain ⟨g1, g2, g3⟩ := hw.tab
      obtain ⟨x0, x1, x2, x3, x4⟩ := five_cells g1
      have y0 := g2.cell 0
      have hq0 := eqf0
      have HB1 := hid g3
      unfold tab fn at *
      clear hD hw g1 g2 g3
      go_wp2_with fail
      go_ret
      exact ⟨rfl, HB1.out⟩
    · obtain ⟨kk, rfl⟩ := Int.eq_ofNat_of_zero_le hk0
      have hk1 : 1 ≤ kk := by omega
      have hk7 : kk ≤ 7 := by omega
      have hk8 : (kk : Int) < 8 := by omega
      rw [decide_eq_false h0, decide_eq_false h7, Bool.false_or, Bool.false_or] at h
      have hH := hid h
      clear h
      go_enter Tryz.func55, Tryz.ntmps55
      go_wp2_with fail
      refine hD.mono ?_
      rintro e w1 ⟨rfl, hw⟩
      obtain ⟨g1, g2, g3⟩ := hw.tab
      obtain ⟨x0, x1, x2, x3, x4⟩ := five_cells g1
      have y0 : (w1.alloc (.cells tab.toArray 182)).cell? ⟨w1.heap.size, kk, none⟩ = some (fn (147 + kk)) := by
        rw [g2.cell kk]; simpa using tab_cell hk1 hk7
      have HB1 := hid g3
      generalize 147 + kk = f at *
      unfold tab fn at *
      have hqf := eqf f
      have q8 : decide ((8 : Int) ≤ (kk : Int)) = false := decide_eq_false (by omega)
      clear hD hw g1 g2 g3 h0 h7 hk
      by_cases j1 : n < 0
      · clear hH
        go_wp2_with fail
        go_ret
        exact ⟨rfl, HB1.out⟩
      · have d1 : decide (n < 0) = false := decide_eq_false j1
        by_cases j2 : a < 0
        · clear hH
          go_wp2_with fail
          go_ret
          exact ⟨rfl, HB1.out⟩
        · have d2 : decide (a < 0) = false := decide_eq_false j2
          by_cases j3 : c < 0
          · clear hH
            go_wp2_with fail
            go_ret
            exact ⟨rfl, HB1.out⟩
          · have d3 : decide (c < 0) = false := decide_eq_false j3
            have j4 : 255 < c := by
              have := hH.out
              rw [d1, d2, d3] at this
              simpa using this
            clear hH
            go_wp2_with fail
            go_ret
            exact ⟨rfl, HB1.out⟩
section
variable {ev : Operand → Value} {o : Oper} {w : World} {x y z : Operand}
theorem rn_ix70 {g k : Nat} (ho : o.op = .indexAddr 182 x y) (hx : ev x = .pointer (some ⟨g, 0, none⟩)) (hy : ev y = .int .u8 (k : Int)) (hk : k < 8) : (execOp ev o).run Tryz.prog w = .ok (.value (.pointer (some ⟨g, k, none⟩))) w := by
  have q1 : (k : Int) < 8 := by omega
  simp [execOp, ho, hx, hy, go_sem, q1]
end
def strF (B T b kk f : Nat) (fw : Value) (i : Nat) (v : Value) (_ : World) : Prop := match i with
  | 38 => v = ptr B
  | 39 => v = .int .u8 (kk : Int)
  | 40 => v = .pointer (some ⟨T, kk, none⟩)
  | 41 => v = .func (.func f) #[] #[]
  | 42 => v = ptr b
  | 43 => v = fw
  | _ => True
set_option maxHeartbeats 2000000 in
set_option maxRecDepth 20000 in
theorem strike_go {w : World} {S : Nat → Prop} {b : Nat} {s : St} (h : IsSt w S b s) (kk : Nat) (hk1 : 1 ≤ kk) (hk7 : kk ≤ 7) (t : Int) (n a c : Nat) (hc : c < 256) (s' : St)
    (hcall : ∀ W, IsSt W S b s → Calls Tryz.prog (147 + kk) #[ptr b, fv (kk : Int) t n a c] W fun e w' => e = .returned (.tuple #[]) ∧ After W w' S b s') (hent : ∀ (args : Array Value) (w : World), (callFunc (147 + kk) args).run Tryz.prog w = .ok (.enter (147 + kk) args) w) : Calls Tryz.prog 55 #[ptr b, fv (kk : Int) t n a c] w fun e w' => e = .returned (er 0) ∧ After w w' S b s' := by
  have hD : Calls Tryz.prog 105 #[] (w.alloc (.cells #[.int .u8 (kk : Int), .int .i64 t, .int .i64 (n : Int), .int .i64 (a : Int), .int .i64 (c : Int)] 36)) fun e w' => e = .returned (.agg tab.toArray) ∧ StW w (kk : Int) t n a c w' := (deeds_any _).mono fun e w' ⟨h1, h2⟩ => ⟨h1, (Has.new w _ #[.int .u8 (kk : Int), .int .i64 t, .int .i64 (n : Int), .int .i64 (a : Int), .int .i64 (c : Int)] 36 rfl).below h2 (by simp), (boxed _ _).trans (h2.mono (by simp))⟩
  have HI := hid h
  have HC := hid hcall
  clear h hcall
  have q8 : decide ((8 : Int) ≤ (kk : Int)) = false := decide_eq_false (by omega)
  have q9 : ¬ (8 : Int) ≤ (kk : Int) := by omega
  have q10 : (kk : Int) < 8 := by omega
  have hk8 : kk < 8 := by omega
  have d1 : ¬ (n : Int) < 0 := by omega
  have d2 : ¬ (a : Int) < 0 := by omega
  have d3 : ¬ (c : Int) < 0 := by omega
  have d4 : ¬ (255 : Int) < (c : Int) := by omega
  unfold ptr fv er
  go_enter Tryz.func55, Tryz.ntmps55
  go_wp2_with fail
  refine hD.mono ?_
  rintro e w1 ⟨rfl, hw⟩
  obtain ⟨g1, g2, g3⟩ := hw.tab
  obtain ⟨x0, x1, x2, x3, x4⟩ := five_cells g1
  have y0 : (w1.alloc (.cells tab.toArray 182)).cell? ⟨w1.heap.size, kk, none⟩ = some (fn (147 + kk)) := by
    rw [g2.cell kk]; simpa using tab_cell hk1 hk7
  have HB1 := hid g3
  have hqf := eqf (147 + kk)
  generalize 147 + kk = f at *
  unfold tab fn at *
  clear hD hw g1 g2 g3
  go_wp2_with fail
  generalize hW2 : w1.alloc (.cells #[.nilFunc, .func (.func 148) #[] #[], .func (.func 149) #[] #[], .func (.func 150) #[] #[], .func (.func 151) #[] #[], .func (.func 152) #[] #[], .func (.func 153) #[] #[], .func (.func 154) #[] #[]] 182) = W2 at *
  refine Tl.wp_mix_lit (by kernel_rfl) 6 [38, 39, 40, 41, 42, 43] 45 rfl (by kernel_rfl) (AtW W2.drew) (strF w.heap.size w1.heap.size b kk f (.agg #[.int .u8 (kk : Int), .int .i64 t, .int .i64 (n : Int), .int .i64 (a : Int), .int .i64 (c : Int)])) rfl
    ⟨fun a' W' hC hF => ?_, fun a' W' hC hF => ?_, fun a' W' hC hF => ?_, fun a' W' hC hF => ?_, fun a' W' hC hF => ?_, fun a' W' hC hF => ?_, trivial⟩ ?_
  · exact Tl.sm_v 38 _ rfl (Tl.wanted_none rfl) hC rfl (rn_f32_0 rfl ((hF 3 (by decide +kernel)).2 (by decide)))
  · exact Tl.sm_v 39 _ rfl (Tl.wanted_none rfl) hC rfl (rn_load5 rfl ((hF 38 (by decide +kernel)).1 (by decide)) (by rw [show W' = _ from hC]; exact x0))
  · exact Tl.sm_v 40 _ rfl (Tl.wanted_none rfl) hC rfl (rn_ix70 rfl ((hF 5 (by decide +kernel)).2 (by decide)) ((hF 39 (by decide +kernel)).1 (by decide)) hk8)
  · exact Tl.sm_v 41 _ rfl (Tl.wanted_none rfl) hC rfl (rn_load69 rfl ((hF 40 (by decide +kernel)).1 (by decide)) (by rw [show W' = _ from hC]; exact y0))
  · exact Tl.sm_v 42 _ rfl (Tl.wanted_none rfl) hC rfl (rn_move rfl ((hF 0 (by decide +kernel)).2 (by decide)))
  · exact Tl.sm_v 43 _ rfl (Tl.wanted_none rfl) hC rfl (rn_load32 rfl ((hF 3 (by decide +kernel)).2 (by decide)) (by rw [show W' = _ from hC]; exact x0) (by rw [show W' = _ from hC]; exact x1) (by rw [show W' = _ from hC]; exact x2) (by rw [show W' = _ from hC]; exact x3) (by rw [show W' = _ from hC]; exact x4))
  intro v wB hw hv
  obtain rfl : wB = _ := hw
  have v41 : v 41 = .func (.func f) #[] #[] := hv 41 (by decide)
  have v42 : v 42 = .pointer (some ⟨b, 0, none⟩) := hv 42 (by decide)
  have v43 : v 43 = .agg #[.int .u8 (kk : Int), .int .i64 t, .int .i64 (n : Int), .int .i64 (a : Int), .int .i64 (c : Int)] := hv 43 (by decide)
  have hA := HC.out W2.drew (HI.out.below HB1.out).drew
  unfold ptr fv at hA
  clear hv x0 x1 x2 x3 x4 y0 hW2 HC
  simp only [Tl.fill, List.drop_succ_cons, List.drop_zero]
  simp only [Act.put, List.setIfInBounds_toArray, List.set_cons_succ, List.set_cons_zero, v41, v42, v43]
  go_wp2_with fail
  refine hA.mono ?_
  rintro e w3 ⟨rfl, hA3⟩
  have HF := hid (hA3.front HB1.out.drew)
  clear hA hA3
  go_wp2_with fail
  go_ret
  exact ⟨rfl, HF.out⟩
def strikeS (s : St) (k n a c : Int) : Int × St := if badF k n a c then (1, s) else (0, match k with
  | 1 => { s with seen := [], writes := [], live := false }
  | 2 => loseS s n.toNat
  | 3 => bendS s n.toNat a.toNat c.toNat
  | 4 => { s with down := true }
  | 5 => { s with down := false }
  | 6 => { s with refuse := some n.toNat }
  | _ => { s with room := some n.toNat })
theorem strike_any {w : World} {S : Nat → Prop} {b : Nat} {s : St} (h : IsSt w S b s) {N : Nat} (hF : Fit N s) (hN : N ≤ 1000000) (k t n a c : Int) (hk0 : 0 ≤ k) (hk : k < 256) (hn : n < 9223372036854775808) (ha : a < 9223372036854775808) : Calls Tryz.prog 55 #[ptr b, fv k t n a c] w fun e w' => e = .returned (er (strikeS s k n a c).1) ∧ After w w' S b (strikeS s k n a c).2 := by
  unfold strikeS
  cases hb : badF k n a c with
  | true => exact (strike_bad b k t n a c hk0 hk hb w).mono fun e w' ⟨h1, h2⟩ => ⟨h1, After.of_below h h2⟩
  | false =>
    have hb' := hb
    unfold badF badN at hb'
    simp only [Bool.or_eq_false_iff, decide_eq_false_iff_not] at hb'
    obtain ⟨b1, b2, b3, b4, b5, b6⟩ := hb'
    obtain ⟨kk, rfl⟩ := Int.eq_ofNat_of_zero_le hk0
    obtain ⟨n', rfl⟩ := Int.eq_ofNat_of_zero_le (show 0 ≤ n by omega)
    obtain ⟨a', rfl⟩ := Int.eq_ofNat_of_zero_le (show 0 ≤ a by omega)
    obtain ⟨c', rfl⟩ := Int.eq_ofNat_of_zero_le (show 0 ≤ c by omega)
    have hs := Nat.le_trans hF.seen hN
    have : kk = 1 ∨ kk = 2 ∨ kk = 3 ∨ kk = 4 ∨ kk = 5 ∨ kk = 6 ∨ kk = 7 := by omega
    rcases this with rfl | rfl | rfl | rfl | rfl | rfl | rfl
    · exact strike_go h 1 (by omega) (by omega) t n' a' c' (by omega) _ (fun W hW => wipe_any hW _ _ _ _ _) (fun _ _ => by kernel_rfl)
    · exact strike_go h 2 (by omega) (by omega) t n' a' c' (by omega) _ (fun W hW => lose_any hW hs hF.names _ _ n' _ _ (by omega)) (fun _ _ => by kernel_rfl)
    · exact strike_go h 3 (by omega) (by omega) t n' a' c' (by omega) _ (fun W hW => bend_any hW hs hF.names hF.datas _ _ n' a' c' (by omega) (by omega) (by omega)) (fun _ _ => by kernel_rfl)
    · exact strike_go h 4 (by omega) (by omega) t n' a' c' (by omega) _ (fun W hW => goDown_any hW _ _ _ _ _) (fun _ _ => by kernel_rfl)
    · exact strike_go h 5 (by omega) (by omega) t n' a' c' (by omega) _ (fun W hW => comeUp_any hW _ _ _ _ _) (fun _ _ => by kernel_rfl)
    · exact strike_go h 6 (by omega) (by omega) t n' a' c' (by omega) _ (fun W hW => refuseOne_any hW _ _ n' _ _) (fun _ _ => by kernel_rfl)
    · exact strike_go h 7 (by omega) (by omega) t n' a' c' (by omega) _ (fun W hW => takeRoom_any hW _ _ n' _ _) (fun _ _ => by kernel_rfl)
end Go.Proofs.YteapbbaollmniaaGreatDoor.W
/- The iterator slices.Backward over a row of writes. -/
namespace Go.Proofs.YteapbbaollmniaaGreatDoor.W
open Go.RowKit Go.Maps
end Go.Proofs.YteapbbaollmniaaGreatDoor.W
/- The contract of Crash. -/
namespace Go.Proofs.YteapbbaollmniaaGreatDoor.W
open Go.RowKit Go.Maps
end Go.Proofs.YteapbbaollmniaaGreatDoor.W
/- The contract of Crash: the walk. -/
namespace Go.Proofs.YteapbbaollmniaaGreatDoor.W
open Go.RowKit Go.Maps
theorem row_slice {w : World} {base k n : Nat} {e : TypeId} {v : Value} {xs : List Value} (h : w.ownsRow base e k v n xs) : ∃ a c, v = .slice a n c := by
  rcases row_form h with ⟨rfl, rfl, _⟩ | ⟨g, cap, rfl, _⟩
  · exact ⟨none, 0, rfl⟩
  · exact ⟨_, cap, rfl⟩
section
variable {ev : Operand → Value} {o : Oper} {w : World} {x y : Operand}
end
end Go.Proofs.YteapbbaollmniaaGreatDoor.W
/- The contracts of Copy and of what it calls. -/
namespace Go.Proofs.YteapbbaollmniaaGreatDoor.W
open Go.RowKit Go.Maps
end Go.Proofs.YteapbbaollmniaaGreatDoor.W
/- What '==' says of structs. -/
namespace Go.Proofs.YteapbbaollmniaaGreatDoor.W
open Go.RowKit Go.Maps
end Go.Proofs.YteapbbaollmniaaGreatDoor.W
/- What several texts need: gathered. -/
namespace Go.Proofs.YteapbbaollmniaaGreatDoor.W
open Go.RowKit Go.Maps
section
variable {ev : Operand → Value} {o : Oper} {w : World} {x y z : Operand}
theorem rn_pickT {v : Value} (ho : o.op = .pick x y z) (hx : ev x = .bool true) (hy : ev y = v) : (execOp ev o).run Tryz.prog w = .ok (.value v) w := by
  subst hy; simp [execOp, ho, hx, go_sem]
theorem rn_pickF {v : Value} (ho : o.op = .pick x y z) (hx : ev x = .bool false) (hz : ev z = v) : (execOp ev o).run Tryz.prog w = .ok (.value v) w := by
  subst hz; simp [execOp, ho, hx, go_sem]
end
theorem wp_assign {o : Oper} {a : Act} {w : World} {K : Act → World → Prop} {Q : Exit → Act → World → Prop} {x : Operand} {d : Nat} {v : Value} (ho : o.op = .assign x) (hd : o.dst = some d) (hx : a.eval x = v) (h : K (a.put (some d) v) w) : o.wp Tryz.prog a w K Q := by
  unfold Oper.wp
  rw [rn_assign ho hx]
  show K (a.put o.dst v) w
  rw [hd]; exact h
theorem wrapN {a b : Nat} (h : a + b ≤ 9223372036854775807) : IntKind.i64.wrap ((a : Int) + (b : Int)) = ((a + b : Nat) : Int) := by
  rw [wrap_i64_of (by omega) (by omega)]; omega
theorem Fit.more {N N' : Nat} {s : St} (h : Fit N s) (hN : N ≤ N') : Fit N' s := ⟨Nat.le_trans h.seen hN, Nat.le_trans h.writes hN, h.names, h.datas, h.wnames, h.was, h.now, h.refuse, h.room⟩
end Go.Proofs.YteapbbaollmniaaGreatDoor.W
/- Drawn regions whose calls write: what is done is told by which operations have been run. -/
namespace Go.Proofs.YteapbbaollmniaaGreatDoor.W
open Go.RowKit Go.Maps
namespace Tl
/-- the operations one by one, with their numbers -/
def AllI (p : Nat → Oper → Prop) : Nat → List Oper → Prop
  | _, [] => True
  | i, o :: l => p i o ∧ AllI p (i + 1) l
theorem AllI.get {p : Nat → Oper → Prop} : ∀ {l : List Oper} {k : Nat}, AllI p k l → ∀ (i : Nat) (o : Oper), l[i]? = some o → p (k + i) o
  | [], _, _, i, o, h => by simp at h
  | x :: l, k, h, 0, o, ho => by simp at ho; subst ho; exact h.1
  | x :: l, k, h, i + 1, o, ho => by
    have := AllI.get h.2 i o (by simpa using ho)
    rwa [show k + 1 + i = k + (i + 1) by omega] at this
end Tl
end Go.Proofs.YteapbbaollmniaaGreatDoor.W
/- The program's world: what it is, how it lies in memory; its small calls. -/
namespace Go.Proofs.YteapbbaollmniaaGreatDoor.W
open Go.RowKit Go.Maps
/-- a store of a world: its block, what it is, whether it is suspect -/
structure Kp where
  blk : Nat
  st : St
  sus : Bool
structure Wd where
  l : List Kp
  calls : Nat
  dark : Bool
  cut : Bool
  left : Nat
def kcells (x : Kp) : List Value := [ptr x.blk, .bool x.sus]
def wdcells (sv : Value) (W : Wd) : Array Value := #[sv, .int .i64 (W.calls : Int), .bool W.dark, .bool W.cut, .int .i64 (W.left : Int)]
/-- block b is a world; all that is its own lies in S; its stores' list lies in g -/
def IsWd (w : World) (S : Nat → Prop) (b g : Nat) (W : Wd) : Prop := ∃ (cap : Nat) (F : Nat → Nat → Prop), Has w b (wdcells (.slice (some ⟨g, 0, none⟩) W.l.length cap) W) 70 ∧ w.ownsRow 0 74 2 (.slice (some ⟨g, 0, none⟩) W.l.length cap) W.l.length (W.l.flatMap kcells) ∧ (∀ (j : Nat) (x : Kp), W.l[j]? = some x → IsSt w (F j) x.blk x.st ∧ (∀ i, F j i → S i) ∧ ¬ F j b ∧ ¬ F j g) ∧ (∀ j k, j < W.l.length → k < W.l.length → j ≠ k → ∀ i, F j i → ¬ F k i) ∧ S b ∧ S g ∧ (∀ i, S i → i < w.heap.size)
def AfterW (w w' : World) (S : Nat → Prop) (b g : Nat) (W : Wd) : Prop := ∃ S', IsWd w' S' b g W ∧ (∀ i, S' i → S i ∨ w.heap.size ≤ i) ∧ Only S w w'
variable {w w' w1 w2 : World} {S : Nat → Prop} {b g : Nat} {W W' : Wd}
theorem IsWd.only {S' : Nat → Prop} (h : IsWd w S b g W) (ho : Only S' w w') (hn : ∀ i, S i → ¬ S' i) : IsWd w' S b g W := by
  obtain ⟨cap, F, h1, h2, h3, h4, h5, h6, h7⟩ := h
  refine ⟨cap, F, ho.has h1 (hn _ h5), row_block h2 fun k hk hl => ho.block k hl (hn _ (by simp [Value.ownBlock] at hk; subst hk; exact h6)), fun j x hj => ?_, h4, h5, h6, fun i hi => Nat.lt_of_lt_of_le (h7 i hi) ho.size⟩
  obtain ⟨k1, k2, k3⟩ := h3 j x hj
  exact ⟨k1.only ho fun i hi => hn i (k2 i hi), k2, k3⟩
theorem IsWd.below (h : IsWd w S b g W) (hb : Below w.heap.size w w') : IsWd w' S b g W := h.only (S' := fun _ => False) (Only.of_below hb) fun _ _ h => h
theorem IsWd.bound (h : IsWd w S b g W) : ∀ i, S i → i < w.heap.size := by
  obtain ⟨cap, F, h1, h2, h3, h4, h5, h6, h7⟩ := h; exact h7
theorem AfterW.refl (h : IsWd w S b g W) : AfterW w w S b g W := ⟨S, h, fun _ h => .inl h, Only.refl _ _⟩
theorem AfterW.trans {S1 : Nat → Prop} (hs : ∀ i, S1 i → S i ∨ w.heap.size ≤ i) (ho : Only S w w1) (h : AfterW w1 w2 S1 b g W) : AfterW w w2 S b g W := by
  obtain ⟨S', h1, h2, h3⟩ := h
  refine ⟨S', h1, fun i hi => ?_, ho.trans h3 hs⟩
  rcases h2 i hi with h | h
  · exact hs i h
  · exact .inr (Nat.le_trans ho.size h)
theorem AfterW.then (h : AfterW w w1 S b g W) (k : ∀ S', IsWd w1 S' b g W → AfterW w1 w2 S' b g W') : AfterW w w2 S b g W' := by
  obtain ⟨S', h1, h2, h3⟩ := h
  exact AfterW.trans h2 h3 (k S' h1)
theorem AfterW.front (hb : Below w.heap.size w w1) (h : AfterW w1 w2 S b g W) : AfterW w w2 S b g W := AfterW.trans (fun _ h => .inl h) (Only.of_below hb) h
theorem AfterW.next (h : AfterW w w1 S b g W) (hb : Below w1.heap.size w1 w2) : AfterW w w2 S b g W := h.then fun S' h' => ⟨S', h'.below hb, fun _ h => .inl h, Only.of_below hb⟩
theorem AfterW.has (h : AfterW w w1 S b g W) {B : Nat} {cs : Array Value} {t : TypeId} (hh : Has w B cs t) (hn : ¬ S B) : Has w1 B cs t := by
  obtain ⟨_, _, _, h3⟩ := h
  exact h3.has hh hn
theorem IsWd.cells (h : IsWd w S b g W) : ∃ cap, (w.cell? ⟨b, 0, none⟩ = some (.slice (some ⟨g, 0, none⟩) W.l.length cap) ∧ w.cell? ⟨b, 1, none⟩ = some (.int .i64 (W.calls : Int)) ∧ w.cell? ⟨b, 2, none⟩ = some (.bool W.dark) ∧ w.cell? ⟨b, 3, none⟩ = some (.bool W.cut) ∧ w.cell? ⟨b, 4, none⟩ = some (.int .i64 (W.left : Int))) ∧ (∀ i, w.frozen? ⟨b, i, none⟩ = false) ∧ w.ownsRow 0 74 2 (.slice (some ⟨g, 0, none⟩) W.l.length cap) W.l.length (W.l.flatMap kcells) := by
  obtain ⟨cap, F, h1, h2, _⟩ := h
  exact ⟨cap, ⟨h1.cell 0, h1.cell 1, h1.cell 2, h1.cell 3, h1.cell 4⟩, fun i => h1.frozen i, h2⟩
theorem kflat_get : ∀ (l : List Kp) (k : Nat) (q : Kp), l[k]? = some q → (l.flatMap kcells)[k * 2]? = some (ptr q.blk) ∧ (l.flatMap kcells)[k * 2 + 1]? = some (.bool q.sus)
  | [], k, q, h => by simp at h
  | p :: r, 0, q, h => by
    simp at h; subst h
    exact ⟨rfl, rfl⟩
  | p :: r, k + 1, q, h => by
    have hr := kflat_get r k q (by simpa using h)
    have hl : (kcells p).length = 2 := rfl
    rw [List.flatMap_cons]
    rw [List.getElem?_append_right (by omega), List.getElem?_append_right (by omega), hl, show (k + 1) * 2 - 2 = k * 2 by omega, show (k + 1) * 2 + 1 - 2 = k * 2 + 1 by omega]
    exact hr
/-- the two cells of a store's place -/
theorem IsWd.kept (h : IsWd w S b g W) {j : Nat} {x : Kp} (hj : W.l[j]? = some x) : w.cell? ⟨g, j * 2, none⟩ = some (ptr x.blk) ∧ w.cell? ⟨g, j * 2 + 1, none⟩ = some (.bool x.sus) ∧ (∀ i, w.frozen? ⟨g, i, none⟩ = false) := by
  obtain ⟨cap, F, h1, h2, _⟩ := h
  have hl : j < W.l.length := (List.getElem?_eq_some_iff.1 hj).1
  obtain ⟨e1, e2⟩ := kflat_get W.l j x hj
  exact ⟨by rw [h2.cellAt (j * 2) (by omega)]; exact e1, by rw [h2.cellAt (j * 2 + 1) (by omega)]; exact e2, fun i => h2.frozenAt i⟩
/-- one cell that is no list is written -/
theorem AfterW.turn (h : IsWd w S b g W) (i : Nat) (v : Value) (he : W'.l = W.l) (hc : ∀ sv, (wdcells sv W).setIfInBounds i v = wdcells sv W') : AfterW w (w.setCell ⟨b, i, none⟩ v) S b g W' := by
  obtain ⟨cap, F, h1, h2, h3, h4, h5, h6, h7⟩ := h
  have ho : Only (fun k => k = b) w (w.setCell ⟨b, i, none⟩ v) := (Only.refl (fun k => k = b) w).set (p := ⟨b, i, none⟩) (.inl rfl) v
  refine ⟨S, ⟨cap, F, ?_, ?_, fun j x hj => ?_, by rw [he]; exact h4, h5, h6, fun k hk => Nat.lt_of_lt_of_le (h7 k hk) ho.size⟩, fun _ h => .inl h, ho.mono fun k hk => by subst hk; exact h5⟩
  · have := h1.set i v
    rw [hc] at this
    rw [he]; exact this
  · rw [he]; exact row_setb h2 h1 (by decide) i v
  · rw [he] at hj
    obtain ⟨k1, k2, k3, k4⟩ := h3 j x hj
    exact ⟨k1.only ho fun k hk e => k3 (e ▸ hk), k2, k3, k4⟩
/-- a call on one of the stores -/
theorem IsWd.call (h : IsWd w S b g W) {j : Nat} {x : Kp} (hj : W.l[j]? = some x) : ∃ T, IsSt w T x.blk x.st ∧ (∀ i, T i → S i) ∧ ∀ w' s', After w w' T x.blk s' → AfterW w w' S b g { W with l := W.l.set j { x with st := s' } } := by
  obtain ⟨cap, F, h1, h2, h3, h4, h5, h6, h7⟩ := h
  have hl : j < W.l.length := (List.getElem?_eq_some_iff.1 hj).1
  obtain ⟨k1, k2, k3, k4⟩ := h3 j x hj
  refine ⟨F j, k1, k2, fun w' s' ha => ?_⟩
  obtain ⟨T', a1, a2, a3⟩ := ha
  have hT' : ∀ i, T' i → i < w'.heap.size := a1.bound
  have hfl : (W.l.set j { x with st := s' }).flatMap kcells = W.l.flatMap kcells := by
    have e : ∀ l : List Kp, ∀ j, l[j]? = some x → (l.set j { x with st := s' }).flatMap kcells = l.flatMap kcells := fun l => by
      induction l with
      | nil => intro j h; simp at h
      | cons p r ih =>
        intro j h
        cases j with
        | zero => simp at h; subst h; rfl
        | succ j => rw [List.set_cons_succ, List.flatMap_cons, List.flatMap_cons, ih j (by simpa using h)]
    exact e W.l j hj
  refine ⟨fun i => S i ∨ (w.heap.size ≤ i ∧ i < w'.heap.size), ⟨cap, fun k => if k = j then T' else F k, ?_, ?_, fun k y hk => ?_, fun k m hk hm hkm i hi hi' => ?_, .inl h5, .inl h6, fun i hi => ?_⟩, fun i hi => hi.imp id fun h => h.1, a3.mono k2⟩
  · have := a3.has h1 k3
    unfold wdcells at this ⊢
    simpa using this
  · simp only [List.length_set]
    rw [hfl]
    exact row_block h2 fun k hk hl' => a3.block k hl' (by simp [Value.ownBlock] at hk; subst hk; exact k4)
  · by_cases e : k = j
    · subst e
      simp only [if_true]
      simp only [List.getElem?_set_self hl, Option.some.injEq] at hk
      subst hk
      refine ⟨a1, fun i hi => ?_, fun hb => ?_, fun hg => ?_⟩
      · have := hT' i hi
        rcases a2 i hi with h | h
        · exact .inl (k2 i h)
        · exact .inr ⟨h, this⟩
      · rcases a2 b hb with h | h
        · exact k3 h
        · have := h7 b h5; omega
      · rcases a2 g hg with h | h
        · exact k4 h
        · have := h7 g h6; omega
    · simp only [if_neg e]
      simp only [List.getElem?_set_ne (Ne.symm e)] at hk
      obtain ⟨m1, m2, m3, m4⟩ := h3 k y hk
      have hkl : k < W.l.length := (List.getElem?_eq_some_iff.1 hk).1
      exact ⟨m1.only a3 fun i hi hT => h4 k j hkl hl e i hi hT, fun i hi => .inl (m2 i hi), m3, m4⟩
  · simp only [List.length_set] at hk hm
    have new : ∀ n, n < W.l.length → n ≠ j → F n i → T' i → False := fun n hn hnj a c => by
      rcases a2 i c with h | h
      · exact h4 n j hn hl hnj i a h
      · obtain ⟨y, hy⟩ : ∃ y, W.l[n]? = some y := ⟨_, List.getElem?_eq_getElem hn⟩
        have := h7 i ((h3 n y hy).2.1 i a)
        omega
    by_cases ek : k = j
    · subst ek
      simp only [if_true] at hi
      simp only [if_neg (Ne.symm hkm)] at hi'
      exact new m hm (Ne.symm hkm) hi' hi
    · simp only [if_neg ek] at hi
      by_cases em : m = j
      · subst em
        simp only [if_true] at hi'
        exact new k hk ek hi hi'
      · simp only [if_neg em] at hi'
        exact h4 k m hk hm hkm i hi hi'
  · rcases hi with hi | hi
    · exact Nat.lt_of_lt_of_le (h7 i hi) a3.size
    · exact hi.2
end Go.Proofs.YteapbbaollmniaaGreatDoor.W
