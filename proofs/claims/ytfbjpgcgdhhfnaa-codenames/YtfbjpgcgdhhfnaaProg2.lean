/- The program's Turn and Solve. -/
import Derived.Test.YtfbjpgcgdhhfnaaSolvedT
namespace Go.Proofs.Ytfbjpgcgdhhfnaa
open Go.RowKit
theorem MW.base {base base' top T R : Nat} {Wd : Nat → Nat} {f : El.M} {w : World} (h : MW base top T R Wd f w) (hb : base' ≤ base) : MW base' top T R Wd f w := by
  obtain ⟨h1, h2, h3, B, h4⟩ := h
  refine ⟨by omega, h2, h3, B, fun i hi => ?_⟩
  obtain ⟨k1, k2, a, cap, k3, kc, k4⟩ := h4 i hi
  refine ⟨k1, k2, a, cap, k3, kc, fun hp => ?_⟩
  obtain ⟨r1, r2, r3⟩ := k4 hp
  exact ⟨r1, by omega, r3⟩
def unitR (n i : Nat) : List Nat := (List.replicate n 0).set i 1
theorem unitR_length (n i : Nat) : (unitR n i).length = n := by simp [unitR]
theorem unitR_lt (n i : Nat) : ∀ x ∈ unitR n i, x < 256 := fun x hx => by
  rcases List.mem_or_eq_of_mem_set hx with hx | rfl
  · rw [List.eq_of_mem_replicate hx]; decide
  · decide
theorem unitR_get (n i j : Nat) (hj : j < n) : (unitR n i).getD j 0 = if j = i then 1 else 0 := by
  unfold unitR
  rw [List.getD_eq_getElem?_getD, List.getElem?_set]
  by_cases h : i = j
  · subst h; simp [hj]
  · rw [if_neg h, if_neg (by omega)]; simp [hj]
set_option maxRecDepth 20000 in
theorem turn1_any (bx n i cap : Nat) (a : Option Addr) (w : World) (hx : Has w bx #[.slice a n cap] 46) (hi : i < n) (hn : n ≤ 1000000) :
    Calls Try.prog 54 #[.int .i64 (i : Int), .pointer (some ⟨bx, 0, none⟩)] w fun e w' => ∃ r, e = .returned r ∧ Row8 w' r (unitR n i) ∧ Below w.heap.size w w' := by
  have hmk := makes_u8 n hn
  have c0 : w.cell? ⟨bx, 0, none⟩ = some (.slice a n cap) := hx.cell 0
  have d0 : (i : Int) < (n : Int) := by omega
  have hH := Has.new w w.heap.size (U8s (List.replicate n 0)) 5 rfl
  have k1 := (hH.cell i).trans (U8s_get _ i (by simp; exact hi))
  have k2 := hH.frozen i
  have hS := hH.set i (.int .u8 ((1 : Nat) : Int))
  rw [U8s_set] at hS
  have HE : Hid (Row8 ((w.alloc (.cells (U8s (List.replicate n 0)) 5)).setCell ⟨w.heap.size, i, none⟩ (.int .u8 ((1 : Nat) : Int))) (.slice (some ⟨w.heap.size, 0, none⟩) n n) (unitR n i) ∧ Below w.heap.size w ((w.alloc (.cells (U8s (List.replicate n 0)) 5)).setCell ⟨w.heap.size, i, none⟩ (.int .u8 ((1 : Nat) : Int)))) := by
    refine ⟨⟨_, _, by rw [unitR_length], by rw [unitR_length]; omega, unitR_lt n i, fun _ => ⟨w.heap.size, 0, rfl, hS.lt, fun j hj => ?_⟩⟩, ((Below.refl _ _).alloc (Nat.le_refl _) _).setCell (Nat.le_refl _) _⟩
    rw [Nat.zero_add, hS.cell]; exact U8s_get (unitR n i) j hj
  have e1 : ((1 : Nat) : Int) = 1 := rfl
  rw [e1] at HE
  clear hH hS e1
  go_enter Try.func54, Try.ntmps54
  go_wp2_with fail
  go_ret
  have HE' := HE.out
  rw [World.setCell_alloc_at _ _ _ _ _ rfl] at HE'
  exact ⟨_, rfl, HE'.1, HE'.2⟩
/-- a row with its bound -/
def RowC (w : World) (v : Value) (l : List Nat) : Prop := Row8 w v l ∧ ∀ a n cap, v = .slice a n cap → n ≤ cap ∧ cap ≤ 9223372036854775807
theorem RowC.below {w w' : World} {v : Value} {l : List Nat} (h : RowC w v l) (hb : Below w.heap.size w w') : RowC w' v l := ⟨h.1.below hb, h.2⟩
def rankM (m : List (List Nat)) : Nat := El.rank m.length m.length (at2 m)
def okT (m : List (List Nat)) : Bool := sqM m && decide (rankM m = m.length)
def ansT (m : List (List Nat)) : List (List Nat) := if okT m then rowsOf m.length (fun _ => m.length) (El.inve m.length (at2 m)) else []
def errT (m : List (List Nat)) : Int := if sqM m then (if rankM m = m.length then 0 else 5) else 4
theorem rank_le (n : Nat) (m : El.M) (h : El.Byt m) : El.rank n n m ≤ n := (El.inv_steps n m h n).le
theorem rowsOf_len (n : Nat) (W : Nat → Nat) (f : El.M) : (rowsOf n W f).length = n := rowsOf_length _ _ _
set_option maxRecDepth 20000 in
theorem turn_any (v : Value) (m : List (List Nat)) (w : World) (h : Mat w v m) :
    Calls Try.prog 49 #[v] w fun e w' => ∃ r, e = .returned (.tuple #[r, .int .i64 (errT m)]) ∧ NewM w.heap.size w'.heap.size w' r (ansT m) ∧ Below w.heap.size w w' := by
  have hM := h
  obtain ⟨a, cap, hv, _⟩ := h
  subst hv
  have hmf : ∀ (fn : Fn) (first cap : Array Value) (w : World), (Instr.makeFunc fn first cap).run Try.prog w = .ok (.func fn first cap) w := fun _ _ _ _ => rfl
  have bA : Below w.heap.size w (w.alloc (.cells #[.slice a m.length cap] 46)) := (Below.refl _ _).alloc (Nat.le_refl _) _
  have hMA := hM.below bA
  have hmq := maySquare_any _ m _ hMA
  have k0 : (w.alloc (.cells #[.slice a m.length cap] 46)).cell? ⟨w.heap.size, 0, none⟩ = some (.slice a m.length cap) := (Has.new w w.heap.size _ 46 rfl).cell 0
  cases hs : sqM m with
  | false =>
    have e1 : Hid (errT m = 4 ∧ ansT m = []) := by unfold Hid errT ansT okT; rw [hs]; exact ⟨rfl, rfl⟩
    go_enter Try.func49, Try.ntmps49
    go_wp2_with fail
    refine hmq.mono ?_
    rintro e w1 ⟨rfl, rfl⟩
    rw [hs]
    go_wp2_with fail
    go_ret2
    exact ⟨_, by rw [e1.out.1]; rfl, by rw [e1.out.2]; exact NewM.nil _ _ _, bA⟩
  | true =>
    have hs' := hs
    unfold sqM at hs'
    simp only [Bool.and_eq_true, decide_eq_true_eq] at hs'
    obtain ⟨hm, hsq⟩ := hs'
    obtain ⟨f1, f2, _⟩ := mayM_facts hm
    have hby := hM.byt
    have hsv := solved54_any _ m w.heap.size m.length (unitR m.length) (El.wide m.length (at2 m)) _ hMA hm hsq.symm (by omega) (by omega) (El.byt_wide _ hby)
      (fun i hi j hj => by unfold El.wide; rw [if_pos hj]) (fun i hi => ⟨unitR_length _ _, unitR_lt _ _, fun j hj => by
        unfold El.wide; rw [if_neg (by omega), unitR_get _ _ _ hj]
        by_cases hji : j = i
        · rw [if_pos hji, if_pos (by omega)]
        · rw [if_neg hji, if_neg (by omega)]⟩)
      (fun i hi W hW => turn1_any w.heap.size m.length i cap a W ((Has.new w w.heap.size _ 46 rfl).below hW (by simp)) hi (by omega))
    rw [El.rank_wide _ _ hby] at hsv
    have HSV := hid hsv
    clear hsv hsq
    go_enter Try.func49, Try.ntmps49
    go_wp2_with fail
    refine hmq.mono ?_
    rintro e w1 ⟨rfl, rfl⟩
    rw [hs]
    go_wp2_with fail
    refine HSV.out.mono ?_
    rintro e w2 ⟨b2, hh⟩
    rw [show ∀ o : Obj, (w.alloc o).heap.size = w.heap.size + 1 from fun o => by simp] at b2 hh
    have B2 : Below w.heap.size w w2 := bA.trans (b2.mono (Nat.le_succ _))
    by_cases hr : El.rank m.length m.length (at2 m) < m.length
    · rw [if_pos hr] at hh
      subst hh
      have e1 : Hid (errT m = 5 ∧ ansT m = []) := by
        unfold Hid errT ansT okT rankM; rw [hs, if_pos rfl, if_neg (by omega), decide_eq_false (by omega)]; exact ⟨rfl, rfl⟩
      go_wp2_with fail
      go_ret2
      exact ⟨_, by rw [e1.out.1]; rfl, by rw [e1.out.2]; exact NewM.nil _ _ _, B2⟩
    · rw [if_neg hr] at hh
      obtain ⟨rfl, hW⟩ := hh
      have HW := hid hW
      clear hW
      have hre : El.rank m.length m.length (at2 m) = m.length := by
        have := rank_le m.length (at2 m) hby; omega
      have e1 : Hid (errT m = 0 ∧ ansT m = rowsOf m.length (fun _ => m.length) (El.inve m.length (at2 m))) := by
        unfold Hid errT ansT okT rankM; rw [hs, if_pos rfl, if_pos hre, decide_eq_true hre]; exact ⟨rfl, rfl⟩
      go_wp2_with fail
      go_ret2
      refine ⟨_, by rw [e1.out.1]; rfl, ?_, B2⟩
      rw [e1.out.2]
      refine ⟨by rw [rowsOf_len]; omega, .inr ⟨_, _, fun _ => m.length, El.inve m.length (at2 m), by rw [rowsOf_len]; rfl, by rw [rowsOf_len], ?_⟩⟩
      rw [rowsOf_len]
      exact HW.out.base (Nat.le_succ _)
def okS (m : List (List Nat)) (l : List Nat) : Bool := sqM m && decide (l.length = m.length)
def ansS (m : List (List Nat)) (l : List Nat) : List Nat := if okS m l && decide (rankM m = m.length) then (List.range m.length).map (El.prod m.length (El.inve m.length (at2 m)) (fun k => l.getD k 0)) else []
def errS (m : List (List Nat)) (l : List Nat) : Int := if okS m l then (if rankM m = m.length then 0 else 5) else 4
theorem flat_ones (n : Nat) (f : Nat → Nat) : flat ((List.range n).map fun i => [f i]) = (List.range n).map f := by
  unfold flat
  generalize List.range n = L
  induction L with
  | nil => rfl
  | cons x L ih => simp only [List.map_cons, List.flatten_cons, ih]; rfl
end Go.Proofs.Ytfbjpgcgdhhfnaa
