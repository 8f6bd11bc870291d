/- The program's Turn and Solve. -/
import Derived.Test.YtjgjcbgeekfkkaaSolvedT
import Derived.Test.YtjgjcbgeekfkkaaSolvedS
namespace Go.Proofs.Ytjgjcbgeekfkkaa
open Go.RowKit
theorem MW.base {base base' top T R : Nat} {Wd : Nat → Nat} {f : El.M} {w : World} (h : MW base top T R Wd f w) (hb : base' ≤ base) : MW base' top T R Wd f w := by
  obtain ⟨h1, h2, h3, B, h4⟩ := h
  refine ⟨by omega, h2, h3, B, fun i hi => ?_⟩
  obtain ⟨k1, k2, a, cap, k3, kc, k4⟩ := h4 i hi
  refine ⟨k1, k2, a, cap, k3, kc, fun hp => ?_⟩
  obtain ⟨r1, r2, r3⟩ := k4 hp
  exact ⟨r1, by omega, r3⟩
def unitR (n i : Nat) : List Nat := (List.replicate n 0).set i 1
theorem unitR_length (n i : Nat) : (unitR n i).length = n := by simp [unitR]
theorem unitR_lt (n i : Nat) : ∀ x ∈ unitR n i, x < 256 := fun x hx => by
  rcases List.mem_or_eq_of_mem_set hx with hx | rfl
  · rw [List.eq_of_mem_replicate hx]; decide
  · decide
theorem unitR_get (n i j : Nat) (hj : j < n) : (unitR n i).getD j 0 = if j = i then 1 else 0 := by
  unfold unitR
  rw [List.getD_eq_getElem?_getD, List.getElem?_set]
  by_cases h : i = j
  · subst h; simp [hj]
  · rw [if_neg h, if_neg (by omega)]; simp [hj]
set_option maxRecDepth 20000 in
theorem turn1_any (bx n i cap : Nat) (a : Option Addr) (w : World) (hx : Has w bx #[.slice a n cap] 22) (hi : i < n) (hn : n ≤ 1000000) :
    Calls Try.prog 24 #[.int .i64 (i : Int), .pointer (some ⟨bx, 0, none⟩)] w fun e w' => ∃ r, e = .returned r ∧ Row8 w' r (unitR n i) ∧ Below w.heap.size w w' := by
  have hmk := makes_u8 n hn
  have c0 : w.cell? ⟨bx, 0, none⟩ = some (.slice a n cap) := hx.cell 0
  have d0 : (i : Int) < (n : Int) := by omega
  have hH := Has.new w w.heap.size (U8s (List.replicate n 0)) 5 rfl
  have k1 := (hH.cell i).trans (U8s_get _ i (by simp; exact hi))
  have k2 := hH.frozen i
  have hS := hH.set i (.int .u8 ((1 : Nat) : Int))
  rw [U8s_set] at hS
  have HE : Hid (Row8 ((w.alloc (.cells (U8s (List.replicate n 0)) 5)).setCell ⟨w.heap.size, i, none⟩ (.int .u8 ((1 : Nat) : Int))) (.slice (some ⟨w.heap.size, 0, none⟩) n n) (unitR n i) ∧ Below w.heap.size w ((w.alloc (.cells (U8s (List.replicate n 0)) 5)).setCell ⟨w.heap.size, i, none⟩ (.int .u8 ((1 : Nat) : Int)))) := by
    refine ⟨⟨_, _, by rw [unitR_length], by rw [unitR_length]; omega, unitR_lt n i, fun _ => ⟨w.heap.size, 0, rfl, hS.lt, fun j hj => ?_⟩⟩, ((Below.refl _ _).alloc (Nat.le_refl _) _).setCell (Nat.le_refl _) _⟩
    rw [Nat.zero_add, hS.cell]; exact U8s_get (unitR n i) j hj
  have e1 : ((1 : Nat) : Int) = 1 := rfl
  rw [e1] at HE
  clear hH hS e1
  go_enter Try.func24, Try.ntmps24
  go_wp2_with fail
  go_ret
  have HE' := HE.out
  rw [World.setCell_alloc_at _ _ _ _ _ rfl] at HE'
  exact ⟨_, rfl, HE'.1, HE'.2⟩
/-- a row with its bound -/
def RowC (w : World) (v : Value) (l : List Nat) : Prop := Row8 w v l ∧ ∀ a n cap, v = .slice a n cap → n ≤ cap ∧ cap ≤ 9223372036854775807
theorem RowC.below {w w' : World} {v : Value} {l : List Nat} (h : RowC w v l) (hb : Below w.heap.size w w') : RowC w' v l := ⟨h.1.below hb, h.2⟩
theorem solve1_any (bx i : Nat) (v : Value) (l : List Nat) (w : World) (h : RowC w v l) (hx : Has w bx #[v] 23) (hi : i < l.length) :
    Calls Try.prog 29 #[.int .i64 (i : Int), .pointer (some ⟨bx, 0, none⟩)] w fun e w' => ∃ r, e = .returned r ∧ Row8 w' r [l.getD i 0] ∧ Below w.heap.size w w' := by
  obtain ⟨h1, h2⟩ := h
  obtain ⟨g, o, cap, rfl, hl, hx8, hg, hc⟩ := h1.some (by omega)
  obtain ⟨c1, c2⟩ := h2 _ _ _ rfl
  clear h2 h1
  have c0 : w.cell? ⟨bx, 0, none⟩ = some (.slice (some ⟨g, o, none⟩) l.length cap) := hx.cell 0
  have HE : Hid (∀ c, Row8 w (.slice (some ⟨g, o + i, none⟩) 1 c) [l.getD i 0]) := fun c => by
    refine ⟨_, _, rfl, by simp, fun x hx => ?_, fun _ => ⟨g, o + i, rfl, hg, fun j hj => ?_⟩⟩
    · simp only [List.mem_singleton] at hx; subst hx; exact getD_lt hx8 i
    · have hj1 : j < 1 := hj
      obtain rfl : j = 0 := by omega
      exact hc i hi
  generalize hn : l.length = n at *
  have d0 : (i : Int) < (n : Int) := by omega
  have d1 : (i : Int) + 1 ≤ (cap : Int) := by omega
  have d2 : (i : Int) < (cap : Int) := by omega
  clear hc hx
  go_enter Try.func29, Try.ntmps29
  go_wp2_with fail
  go_ret
  have ee : i + 1 - i = 1 := by omega
  exact ⟨_, rfl, by (try rw [ee]); exact HE.out _, Below.refl _ _⟩
def rankM (m : List (List Nat)) : Nat := El.rank m.length m.length (at2 m)
def okT (m : List (List Nat)) : Bool := sqM m && decide (rankM m = m.length)
def ansT (m : List (List Nat)) : List (List Nat) := if okT m then rowsOf m.length (fun _ => m.length) (El.inve m.length (at2 m)) else []
def errT (m : List (List Nat)) : Int := if sqM m then (if rankM m = m.length then 0 else 5) else 4
theorem rank_le (n : Nat) (m : El.M) (h : El.Byt m) : El.rank n n m ≤ n := (El.inv_steps n m h n).le
theorem rowsOf_len (n : Nat) (W : Nat → Nat) (f : El.M) : (rowsOf n W f).length = n := rowsOf_length _ _ _
set_option maxRecDepth 20000 in
theorem turn_any (v : Value) (m : List (List Nat)) (w : World) (h : Mat w v m) :
    Calls Try.prog 9 #[v] w fun e w' => ∃ r, e = .returned (.tuple #[r, .int .i64 (errT m)]) ∧ NewM w.heap.size w'.heap.size w' r (ansT m) ∧ Below w.heap.size w w' := by
  have hM := h
  obtain ⟨a, cap, hv, _⟩ := h
  subst hv
  have hmf : ∀ (fn : Fn) (first cap : Array Value) (w : World), (Instr.makeFunc fn first cap).run Try.prog w = .ok (.func fn first cap) w := fun _ _ _ _ => rfl
  have bA : Below w.heap.size w (w.alloc (.cells #[.slice a m.length cap] 22)) := (Below.refl _ _).alloc (Nat.le_refl _) _
  have hMA := hM.below bA
  have hmq := maySquare_any _ m _ hMA
  have k0 : (w.alloc (.cells #[.slice a m.length cap] 22)).cell? ⟨w.heap.size, 0, none⟩ = some (.slice a m.length cap) := (Has.new w w.heap.size _ 22 rfl).cell 0
  cases hs : sqM m with
  | false =>
    have e1 : Hid (errT m = 4 ∧ ansT m = []) := by unfold Hid errT ansT okT; rw [hs]; exact ⟨rfl, rfl⟩
    go_enter Try.func9, Try.ntmps9
    go_wp2_with fail
    refine hmq.mono ?_
    rintro e w1 ⟨rfl, rfl⟩
    rw [hs]
    go_wp2_with fail
    go_ret2
    exact ⟨_, by rw [e1.out.1]; rfl, by rw [e1.out.2]; exact NewM.nil _ _ _, bA⟩
  | true =>
    have hs' := hs
    unfold sqM at hs'
    simp only [Bool.and_eq_true, decide_eq_true_eq] at hs'
    obtain ⟨hm, hsq⟩ := hs'
    obtain ⟨f1, f2, _⟩ := mayM_facts hm
    have hby := hM.byt
    have hsv := solved24_any _ m w.heap.size m.length (unitR m.length) (El.wide m.length (at2 m)) _ hMA hm hsq.symm (by omega) (by omega) (El.byt_wide _ hby)
      (fun i hi j hj => by unfold El.wide; rw [if_pos hj]) (fun i hi => ⟨unitR_length _ _, unitR_lt _ _, fun j hj => by
        unfold El.wide; rw [if_neg (by omega), unitR_get _ _ _ hj]
        by_cases hji : j = i
        · rw [if_pos hji, if_pos (by omega)]
        · rw [if_neg hji, if_neg (by omega)]⟩)
      (fun i hi W hW => turn1_any w.heap.size m.length i cap a W ((Has.new w w.heap.size _ 22 rfl).below hW (by simp)) hi (by omega))
    rw [El.rank_wide _ _ hby] at hsv
    have HSV := hid hsv
    clear hsv hsq
    go_enter Try.func9, Try.ntmps9
    go_wp2_with fail
    refine hmq.mono ?_
    rintro e w1 ⟨rfl, rfl⟩
    rw [hs]
    go_wp2_with fail
    refine HSV.out.mono ?_
    rintro e w2 ⟨b2, hh⟩
    rw [show ∀ o : Obj, (w.alloc o).heap.size = w.heap.size + 1 from fun o => by simp] at b2 hh
    have B2 : Below w.heap.size w w2 := bA.trans (b2.mono (Nat.le_succ _))
    by_cases hr : El.rank m.length m.length (at2 m) < m.length
    · rw [if_pos hr] at hh
      subst hh
      have e1 : Hid (errT m = 5 ∧ ansT m = []) := by
        unfold Hid errT ansT okT rankM; rw [hs, if_pos rfl, if_neg (by omega), decide_eq_false (by omega)]; exact ⟨rfl, rfl⟩
      go_wp2_with fail
      go_ret2
      exact ⟨_, by rw [e1.out.1]; rfl, by rw [e1.out.2]; exact NewM.nil _ _ _, B2⟩
    · rw [if_neg hr] at hh
      obtain ⟨rfl, hW⟩ := hh
      have HW := hid hW
      clear hW
      have hre : El.rank m.length m.length (at2 m) = m.length := by
        have := rank_le m.length (at2 m) hby; omega
      have e1 : Hid (errT m = 0 ∧ ansT m = rowsOf m.length (fun _ => m.length) (El.inve m.length (at2 m))) := by
        unfold Hid errT ansT okT rankM; rw [hs, if_pos rfl, if_pos hre, decide_eq_true hre]; exact ⟨rfl, rfl⟩
      go_wp2_with fail
      go_ret2
      refine ⟨_, by rw [e1.out.1]; rfl, ?_, B2⟩
      rw [e1.out.2]
      refine ⟨by rw [rowsOf_len]; omega, .inr ⟨_, _, fun _ => m.length, El.inve m.length (at2 m), by rw [rowsOf_len]; rfl, by rw [rowsOf_len], ?_⟩⟩
      rw [rowsOf_len]
      exact HW.out.base (Nat.le_succ _)
def okS (m : List (List Nat)) (l : List Nat) : Bool := sqM m && decide (l.length = m.length)
def ansS (m : List (List Nat)) (l : List Nat) : List Nat := if okS m l && decide (rankM m = m.length) then (List.range m.length).map (El.prod m.length (El.inve m.length (at2 m)) (fun k => l.getD k 0)) else []
def errS (m : List (List Nat)) (l : List Nat) : Int := if okS m l then (if rankM m = m.length then 0 else 5) else 4
theorem flat_ones (n : Nat) (f : Nat → Nat) : flat ((List.range n).map fun i => [f i]) = (List.range n).map f := by
  unfold flat
  generalize List.range n = L
  induction L with
  | nil => rfl
  | cons x L ih => simp only [List.map_cons, List.flatten_cons, ih]; rfl
set_option maxRecDepth 20000 in
theorem solve_any (v vl : Value) (m : List (List Nat)) (l : List Nat) (w : World) (h : Mat w v m) (hl : RowC w vl l) :
    Calls Try.prog 15 #[v, vl] w fun e w' => ∃ r, e = .returned (.tuple #[r, .int .i64 (errS m l)]) ∧ Owns 5 w.heap.size r (U8s (ansS m l)).toList w' ∧ Below w.heap.size w w' := by
  have hM := h
  obtain ⟨a, cap, hv, _⟩ := h
  subst hv
  have hL := hl
  obtain ⟨⟨al, cl, hvl, _⟩, _⟩ := hl
  subst hvl
  have hmf : ∀ (fn : Fn) (first cap : Array Value) (w : World), (Instr.makeFunc fn first cap).run Try.prog w = .ok (.func fn first cap) w := fun _ _ _ _ => rfl
  have bA : Below w.heap.size w (w.alloc (.cells #[.slice al l.length cl] 23)) := (Below.refl _ _).alloc (Nat.le_refl _) _
  have hMA := hM.below bA
  have hmq := maySquare_any _ m _ hMA
  have hH := Has.new w w.heap.size #[.slice al l.length cl] 23 rfl
  have k0 : (w.alloc (.cells #[.slice al l.length cl] 23)).cell? ⟨w.heap.size, 0, none⟩ = some (.slice al l.length cl) := hH.cell 0
  have HH := hid hH
  clear hH
  cases hs : sqM m with
  | false =>
    have e1 : Hid (errS m l = 4 ∧ ansS m l = []) := by unfold Hid errS ansS okS; rw [hs]; exact ⟨rfl, rfl⟩
    go_enter Try.func15, Try.ntmps15
    go_wp2_with fail
    refine hmq.mono ?_
    rintro e w1 ⟨rfl, rfl⟩
    rw [hs]
    go_wp2_with fail
    go_ret2
    exact ⟨_, by rw [e1.out.1]; rfl, by rw [e1.out.2]; exact Owns.nil _ _ _, bA⟩
  | true =>
    by_cases hll : l.length = m.length
    · have hs' := hs
      unfold sqM at hs'
      simp only [Bool.and_eq_true, decide_eq_true_eq] at hs'
      obtain ⟨hm, hsq⟩ := hs'
      obtain ⟨f1, f2, _⟩ := mayM_facts hm
      have hby := hM.byt
      have hvb : El.B1 (fun k => l.getD k 0) := fun k => getD_lt hL.1.choose_spec.choose_spec.2.2.1 k
      have hsv := solved29_any _ m w.heap.size 1 (fun i => [l.getD i 0]) (El.wide1 m.length (at2 m) (fun k => l.getD k 0)) _ hMA hm hsq.symm (by omega) (by omega) (El.byt_wide1 _ hby hvb)
        (fun i hi j hj => by unfold El.wide1; rw [if_pos hj]) (fun i hi => ⟨rfl, fun x hx => by simp only [List.mem_singleton] at hx; subst hx; exact hvb i, fun j hj => by
          obtain rfl : j = 0 := by omega
          unfold El.wide1; rw [if_neg (by omega)]; rfl⟩)
        (fun i hi W hW => solve1_any w.heap.size i _ l W ((hL.below bA).below hW) (HH.out.below hW (by simp)) (by omega))
      rw [El.rank_wide1 _ _ _ hby] at hsv
      have HSV := hid hsv
      have HSO : Hid (∀ i, i < m.length → (El.steps m.length (El.wide1 m.length (at2 m) (fun k => l.getD k 0)) m.length).1 i m.length = El.prod m.length (El.inve m.length (at2 m)) (fun k => l.getD k 0) i) := fun i hi => El.solved_is hby hvb hi
      have HLL := hid hll
      have hok : okS m l = true := by unfold okS; rw [hs, decide_eq_true hll]; rfl
      have e0 : ((l.length : Int) != (m.length : Int)) = false := by rw [hll]; simp
      clear hsv hsq hll
      go_enter Try.func15, Try.ntmps15
      go_wp2_with fail
      refine hmq.mono ?_
      rintro e w1 ⟨rfl, rfl⟩
      rw [hs]
      go_wp2_with fail
      refine HSV.out.mono ?_
      rintro e w2 ⟨b2, hh⟩
      rw [show ∀ o : Obj, (w.alloc o).heap.size = w.heap.size + 1 from fun o => by simp] at b2 hh
      have B2 : Below w.heap.size w w2 := bA.trans (b2.mono (Nat.le_succ _))
      by_cases hr : El.rank m.length m.length (at2 m) < m.length
      · rw [if_pos hr] at hh
        subst hh
        have e1 : Hid (errS m l = 5 ∧ ansS m l = []) := by
          unfold Hid errS ansS rankM; rw [hok, if_pos rfl, if_neg (by omega), decide_eq_false (by omega)]; exact ⟨rfl, rfl⟩
        go_wp2_with fail
        refine (concat_any _ [] w2 (Mat.nil w2) (by simp [flat])).mono ?_
        rintro e w3 ⟨r, rfl, ho, b3⟩
        have hrow := hid (ho.mono B2.size)
        clear ho
        go_wp2_with fail
        go_ret2
        exact ⟨_, by rw [e1.out.1]; rfl, by rw [e1.out.2]; exact hrow.out, belowCall B2 b3⟩
      · rw [if_neg hr] at hh
        obtain ⟨rfl, hW⟩ := hh
        have hre : El.rank m.length m.length (at2 m) = m.length := by
          have := rank_le m.length (at2 m) hby; omega
        have e1 : Hid (errS m l = 0 ∧ ansS m l = (List.range m.length).map (El.prod m.length (El.inve m.length (at2 m)) (fun k => l.getD k 0))) := by
          unfold Hid errS ansS rankM; rw [hok, if_pos rfl, if_pos hre, decide_eq_true hre]; exact ⟨rfl, rfl⟩
        have hmat := hW.mat (cap := m.length) (by omega)
        have hfl : flat (rowsOf m.length (fun _ => 1) (fun i j => (El.steps m.length (El.wide1 m.length (at2 m) (fun k => l.getD k 0)) m.length).1 i (m.length + j))) = (List.range m.length).map (El.prod m.length (El.inve m.length (at2 m)) (fun k => l.getD k 0)) := by
          unfold rowsOf
          rw [show ((List.range m.length).map fun i => (List.range 1).map fun j => (El.steps m.length (El.wide1 m.length (at2 m) (fun k => l.getD k 0)) m.length).1 i (m.length + j)) = (List.range m.length).map fun i => [El.prod m.length (El.inve m.length (at2 m)) (fun k => l.getD k 0) i] from List.map_congr_left fun i hi => by
            show [_] = [_]
            rw [← HSO.out i (List.mem_range.1 hi)]; rfl]
          exact flat_ones _ _
        have hcc := concat_any _ _ w2 hmat (by rw [hfl]; simp; omega)
        rw [hfl] at hcc
        have HCC := hid hcc
        clear hcc hmat hW hfl hre
        go_wp2_with fail
        refine HCC.out.mono ?_
        rintro e w3 ⟨r, rfl, ho, b3⟩
        have hrow := hid (ho.mono B2.size)
        clear ho HCC
        go_wp2_with fail
        go_ret2
        exact ⟨_, by rw [e1.out.1]; rfl, by rw [e1.out.2]; exact hrow.out, belowCall B2 b3⟩
    · have e1 : Hid (errS m l = 4 ∧ ansS m l = []) := by unfold Hid errS ansS okS; rw [hs, decide_eq_false hll]; exact ⟨rfl, rfl⟩
      have e0 : ((l.length : Int) != (m.length : Int)) = true := by simp; omega
      go_enter Try.func15, Try.ntmps15
      go_wp2_with fail
      refine hmq.mono ?_
      rintro e w1 ⟨rfl, rfl⟩
      rw [hs]
      go_wp2_with fail
      go_ret2
      exact ⟨_, by rw [e1.out.1]; rfl, by rw [e1.out.2]; exact Owns.nil _ _ _, bA⟩
end Go.Proofs.Ytjgjcbgeekfkkaa
