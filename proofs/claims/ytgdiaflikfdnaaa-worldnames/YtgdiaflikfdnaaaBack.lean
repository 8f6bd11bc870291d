/- The iterator slices.Backward over a row of writes. -/
import Derived.Test.YtgdiaflikfdnaaaStrike
import Derived.RangeFuncNested
import Derived.RangeFuncBound
import Derived.RangeFuncCalls
import Derived.RangeFuncLeaves
import Derived.Shelf.Abstract
import Derived.Shelf.RegionOpen
import Derived.OwnWalkIn
import Derived.TacticsInMore
import Derived.LoopNIn
import Derived.LoopIn
namespace Go.Proofs.Ytgdiaflikfdnaaa
open Go.RowKit Go.Maps
/-- what a round is handed: a place, and a write -/
abbrev Itm (ws : List Wr) := { p : Nat × Wr // p.2 ∈ ws }
def itmV {ws : List Wr} (x : Itm ws) : Array Value := #[.int .i64 (x.1.1 : Int), .agg (wcells x.1.2).toArray]
theorem flat_get : ∀ (ws : List Wr) (k : Nat) (q : Wr), ws[k]? = some q → ∀ j u, (wcells q)[j]? = some u → (ws.flatMap wcells)[k * 5 + j]? = some u
  | [], k, q, h => by simp at h
  | p :: r, 0, q, h => by
    simp at h; subst h
    intro j u hu
    have hj : j < (wcells p).length := (List.getElem?_eq_some_iff.1 hu).1
    rw [List.flatMap_cons, Nat.zero_mul, Nat.zero_add, List.getElem?_append_left hj]; exact hu
  | p :: r, k + 1, q, h => by
    intro j u hu
    have := flat_get r k q (by simpa using h) j u hu
    have e : (k + 1) * 5 + j = (wcells p).length + (k * 5 + j) := by simp [wcells]; omega
    rw [List.flatMap_cons, e, List.getElem?_append_right (by omega), Nat.add_sub_cancel_left]
    exact this
theorem wr_cells {w : World} {base : Nat} {v : Value} {ws : List Wr} (h : w.ownsRow base 96 5 v ws.length (ws.flatMap wcells)) {k : Nat} {q : Wr} (hq : ws[k]? = some q) : ∃ g cap, v = .slice (some ⟨g, 0, none⟩) ws.length cap ∧ g < w.heap.size ∧ ∀ j u, (wcells q)[j]? = some u → w.cell? ⟨g, k * 5 + j, none⟩ = some u := by
  rcases row_form h with ⟨_, e, _⟩ | ⟨g, cap, e, hg, _, _, _, hc⟩
  · have := (List.getElem?_eq_some_iff.1 hq).1; omega
  · exact ⟨g, cap, e, hg, fun j u hu => hc _ _ (flat_get ws k q hq j u hu)⟩
set_option maxRecDepth 100000 in
set_option maxHeartbeats 2000000 in
theorem back1_in (n l cb : Nat) (wv : Value) (ws : List Wr) (hws : ws.length ≤ 1000000) (T : Nat → Prop) (J Jx : List (Itm ws) → World → Prop)
    (hY : ∀ pre (x : Itm ws) W, J pre W → pre.length < ws.length → YieldAt Fence.wide (n - 1) Try.prog l (itmV x) W fun e W' =>
      (e = .returned (.bool true) ∧ J (pre ++ [x]) W' ∧ Only T W W') ∨ (e = .returned (.bool false) ∧ Jx (pre ++ [x]) W'))
    (W : World) (hcb : Has W cb #[wv] 81) (hrow : W.ownsRow 0 96 5 wv ws.length (ws.flatMap wcells)) (hT1 : ¬ T cb) (hT2 : ∀ g, wv.ownBlock = some g → ¬ T g) (h0 : J [] W) :
    CallsIn Fence.wide n Try.prog 68 #[.func (.yield l) #[] #[], .pointer (some ⟨cb, 0, none⟩)] W fun e W' => (∃ v, e = .returned v) ∧
      ((∃ ys : List (Itm ws), ys.map (·.1.2) = ws.reverse ∧ J ys W') ∨ (∃ pre : List (Itm ws), True ∧ Jx pre W')) := by
  have hsa := @Oper.semAt_some
  have c0 := hcb.cell 0
  have hlen : ∀ W', W'.ownsRow 0 96 5 wv ws.length (ws.flatMap wcells) → ∀ ty, (Builtin.len_ #[81] ty #[wv]).run Try.prog W' = .ok (.int .i64 (ws.length : Int)) W' := fun W' hr ty => by
    rcases row_form hr with ⟨rfl, e, _⟩ | ⟨g, cap, rfl, _⟩
    · rw [e]; kernel_rfl
    · simp [Builtin.len_, run_underlying Try.underlying81, goInt]
  have hl0 := hlen W hrow
  have HC := hid hcb
  have HR := hid hrow
  clear hlen hcb hrow
  refine callsIn_of_wp Try.func68 rfl trivial ?_ rfl
  simp only [Try.ntmps68, List.size_toArray, List.length_cons, List.length_nil, Nat.reduceAdd, Nat.reduceSub, Array.replicate_succ, Array.replicate_zero, List.push_toArray, List.append_toArray, List.nil_append, List.cons_append]
  gi_wp2
  gi_loopw [3] (fun s3 wr => ∃ (k : Nat) (pre : List (Itm ws)), k ≤ ws.length ∧ pre.length = k ∧ pre.map (·.1.2) = ws.reverse.take k ∧ s3 = .int .i64 ((ws.length : Int) - 1 - (k : Int)) ∧ J pre wr ∧ Only T W wr)
    (fun s3 _ => (intOf s3 + 1).toNat)
  case atStart => exact ⟨0, [], Nat.zero_le _, rfl, by simp, by simp, h0, Only.refl _ _⟩
  case round =>
    obtain ⟨k, pre, hk, hpl, hpm, rfl, hJ, hO⟩ := hrel
    by_cases hkn : k = ws.length
    · subst hkn
      have q1 : ¬ (0 : Int) ≤ (ws.length : Int) - 1 - (ws.length : Int) := by omega
      have q2 : (ws.length : Int) - 1 - (ws.length : Int) = -1 := by omega
      have HP := hid hpm
      clear hpm
      gi_wp2
      go_end0
      exact ⟨⟨_, rfl⟩, .inl ⟨pre, by rw [HP.out, List.take_of_length_le (by simp)], hJ⟩⟩
    · have hlt : k < ws.length := by omega
      obtain ⟨r, hr⟩ : ∃ r : Nat, r = ws.length - 1 - k := ⟨_, rfl⟩
      have q0 : (ws.length : Int) - 1 - (k : Int) = (r : Int) := by omega
      have hr' : r < ws.length := by omega
      obtain ⟨qq, hq⟩ : ∃ q, ws[r]? = some q := ⟨_, List.getElem?_eq_getElem hr'⟩
      have hqm : qq ∈ ws := List.mem_of_getElem? hq
      have HRow : wr.ownsRow 0 96 5 wv ws.length (ws.flatMap wcells) := row_block HR.out fun g hg hl => hO.block g hl (hT2 g hg)
      have HBox : Has wr cb #[wv] 81 := hO.has HC.out hT1
      obtain ⟨g, cap, hv, hg, hc⟩ := wr_cells HRow hq
      have d0 : wr.cell? ⟨g, r * 5, none⟩ = some (.string qq.name) := hc 0 _ rfl
      have d1 := hc 1 _ rfl
      have d2 := hc 2 _ rfl
      have d3 := hc 3 _ rfl
      have d4 := hc 4 _ rfl
      have hb0 := HBox.cell 0
      rw [hv] at hb0
      simp only [List.getElem?_toArray, List.getElem?_cons_zero] at hb0
      obtain ⟨fn, tmps, assign, body, hy, hR⟩ := hY pre ⟨(r, qq), hqm⟩ wr hJ (by omega)
      unfold itmV wcells at hy
      simp only at hy
      have HS : Hid ((pre ++ [(⟨(r, qq), hqm⟩ : Itm ws)]).map (·.1.2) = ws.reverse.take (k + 1)) := hid (by
        rw [List.map_append, hpm, List.take_add_one, List.getElem?_reverse hlt, show ws.length - 1 - k = r from hr.symm, hq]
        rfl)
      have q3 : (r : Int) < (ws.length : Int) := by omega
      have q4 : (0 : Int) ≤ (r : Int) := by omega
      rw [q0]
      clear hc hv hr hpm HRow HBox hq hl0
      gi_wp2
      refine ⟨fun h => by simp [Fence.wide] at h, hR.mono ?_⟩
      rintro e W3 (⟨rfl, hJ3, hk3⟩ | ⟨rfl, hJx3⟩)
      · have O3 := hid (hO.trans hk3 fun _ h => .inl h)
        clear hR hy d0 d1 d2 d3 d4 hb0 hk3 hO
        gi_wp2
        go_roundw
        case rel => exact ⟨k + 1, _, by omega, by simp [hpl], HS.out, by congr 1; omega, hJ3, O3.out⟩
        case measure => first | (simp [intOf]; done) | (simp [intOf]; omega)
      · clear hR hy d0 d1 d2 d3 d4 hb0 hO
        gi_wp2
        refine bodyPost_ret (results_none rfl _ _ _) rfl ?_
        exact ⟨⟨_, rfl⟩, .inr ⟨_, trivial, hJx3⟩⟩
/-- slices.Backward -/
theorem back_stops (n cb : Nat) (wv : Value) (ws : List Wr) (hws : ws.length ≤ 1000000) (T : Nat → Prop) (w : World) (hcb : Has w cb #[wv] 81) (hrow : w.ownsRow 0 96 5 wv ws.length (ws.flatMap wcells)) (hT1 : ¬ T cb) (hT2 : ∀ g, wv.ownBlock = some g → ¬ T g) :
    SeqStopsK Fence.wide n Try.prog 68 #[.pointer (some ⟨cb, 0, none⟩)] (itmV (ws := ws)) (Only T) (fun ys => ys.map (·.1.2) = ws.reverse) (fun _ => True) ws.length w := fun l J Jx W hW _ _ hY h0 =>
  back1_in n l cb wv ws hws T J Jx hY W (hcb.below hW hcb.lt) (row_below hrow hW) hT1 hT2 h0
set_option maxRecDepth 20000 in
theorem backward_any (a : Option Addr) (n c : Nat) (w : World) : Calls Try.prog 50 #[.slice a n c] w fun e w' => e = .returned (.func (.func 68) #[] #[.pointer (some ⟨w.heap.size, 0, none⟩)]) ∧ w' = w.alloc (.cells #[.slice a n c] 81) := by
  go_enter Try.func50, Try.ntmps50
  go_wp2_with fail
  go_ret
  exact ⟨rfl, rfl⟩
end Go.Proofs.Ytgdiaflikfdnaaa
