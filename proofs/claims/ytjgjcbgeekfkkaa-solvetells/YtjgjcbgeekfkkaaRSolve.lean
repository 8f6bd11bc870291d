/- The document's Solve. -/
import Derived.Test.YtjgjcbgeekfkkaaRTurn
namespace Go.Proofs.Ytjgjcbgeekfkkaa
open Go.RowKit
theorem xs_step (n : Nat) (f : Nat → Nat) : El.xs (n + 1) f = El.xs n f ^^^ f n := rfl
theorem take_range_map (n k : Nat) (f : Nat → Nat) (hk : k < n) : ((List.range n).map f).take k ++ [f k] = ((List.range n).map f).take (k + 1) := by
  rw [List.take_succ_eq_append_getElem (by simp; exact hk)]
  simp
set_option maxRecDepth 20000 in
set_option maxHeartbeats 1000000 in
theorem refSolve_any (v vl : Value) (m : List (List Nat)) (l : List Nat) (w : World) (h : Mat w v m) (hl : Row8 w vl l) :
    Calls Try.prog 16 #[v, vl] w fun e w' => ∃ r, e = .returned (.tuple #[r, .int .i64 (errS m l)]) ∧ Owns 5 w.heap.size r (U8s (ansS m l)).toList w' ∧ Below w.heap.size w w' := by
  have ht := hid (refTurn_any v m w h)
  have hby := h.byt
  have hL := hid hl
  obtain ⟨al, cl, hvl, hl63, hlx, hlc⟩ := hl
  subst hvl
  obtain ⟨am, cm, hvm, hm63, _⟩ := h
  subst hvm
  have HLX := hid hlx
  have HLC := hid hlc
  clear hlx hlc
  by_cases hok : okS m l = true
  · have hok' := hok
    unfold okS at hok'
    simp only [Bool.and_eq_true, decide_eq_true_eq] at hok'
    obtain ⟨hs, hll⟩ := hok'
    have hs' := hs
    unfold sqM at hs'
    simp only [Bool.and_eq_true, decide_eq_true_eq] at hs'
    obtain ⟨f1, f2, _⟩ := mayM_facts hs'.1
    have e0 : ((l.length : Int) != (m.length : Int)) = false := by rw [hll]; simp
    by_cases hr : rankM m = m.length
    · have E1 : errT m = 0 := by unfold errT; rw [hs, if_pos rfl, if_pos hr]
      have E2 : Hid (errS m l = 0 ∧ ansS m l = (List.range m.length).map (El.prod m.length (El.inve m.length (at2 m)) (fun k => l.getD k 0))) := by
        unfold Hid errS ansS; rw [hok, if_pos rfl, if_pos hr, decide_eq_true hr]; exact ⟨rfl, rfl⟩
      have E3 : Hid (ansT m = rowsOf m.length (fun _ => m.length) (El.inve m.length (at2 m))) := by unfold Hid ansT okT; rw [hs, decide_eq_true hr]; rfl
      have HB : Hid (El.Byt (El.inve m.length (at2 m))) := El.byt_inve _ hby
      have HP : Hid (∀ i, El.prod m.length (El.inve m.length (at2 m)) (fun k => l.getD k 0) i = El.xs m.length (fun k => Fld.mul (El.inve m.length (at2 m) i k) (l.getD k 0))) := fun _ => rfl
      have HTk : Hid (∀ k, k < m.length → ((List.range m.length).map (El.prod m.length (El.inve m.length (at2 m)) (fun k => l.getD k 0))).take k ++ [El.prod m.length (El.inve m.length (at2 m)) (fun k => l.getD k 0) k] = ((List.range m.length).map (El.prod m.length (El.inve m.length (at2 m)) (fun k => l.getD k 0))).take (k + 1)) := fun k hk => take_range_map _ _ _ hk
      have HTl : Hid (∀ k, (((List.range m.length).map (El.prod m.length (El.inve m.length (at2 m)) (fun k => l.getD k 0))).take k).length ≤ 999999) := fun k => by simp; omega
      have HAl : Hid (((List.range m.length).map (El.prod m.length (El.inve m.length (at2 m)) (fun k => l.getD k 0))).length ≤ 1000000) := by unfold Hid; simp; omega
      have HTe : Hid (((List.range m.length).map (El.prod m.length (El.inve m.length (at2 m)) (fun k => l.getD k 0))).take m.length = (List.range m.length).map (El.prod m.length (El.inve m.length (at2 m)) (fun k => l.getD k 0))) := by unfold Hid; rw [List.take_of_length_le (by simp)]
      have HLt : Hid (∀ x ∈ (List.range m.length).map (El.prod m.length (El.inve m.length (at2 m)) (fun k => l.getD k 0)), x < 256) := fun x hx => by
        simp only [List.mem_map] at hx
        obtain ⟨i, _, rfl⟩ := hx
        exact El.xs_lt (fun _ => Fld.mul_lt _ _) _
      rw [E1] at ht
      clear E1 hr hs' hs hok
      rw [E3.out] at ht
      rw [hll] at HLC e0 hl63 ⊢
      obtain ⟨ans, hans⟩ : ∃ ans, Hid (ans = (List.range m.length).map (El.prod m.length (El.inve m.length (at2 m)) (fun k => l.getD k 0))) := ⟨_, rfl⟩
      rw [← hans.out] at E2 HTk HTl HTe HLt HAl
      obtain ⟨N, hN⟩ : ∃ N, Hid (N = El.inve m.length (at2 m)) := ⟨_, rfl⟩
      rw [← hN.out] at ht HB HP HTk
      clear hans E3 hll
      generalize hn : m.length = n at *
      go_enter Try.func16, Try.ntmps16
      go_wp2_with fail
      refine ht.out.mono ?_
      rintro e w1 ⟨t, rfl, hT, b1⟩
      obtain ⟨gt, ot, ct, htv, ht63, hgt, htr⟩ := hT.some (by rw [rowsOf_length]; omega)
      rw [rowsOf_length] at htv htr
      have HTR : Hid (∀ i, i < n → ∃ gr o c, gr < w1.heap.size ∧ w1.cell? ⟨gt, ot + i, none⟩ = some (.slice (some ⟨gr, o, none⟩) n c) ∧ ∀ j, j < n → w1.cell? ⟨gr, o + j, none⟩ = some (.int .u8 (N i j : Int))) := fun i hi => by
        obtain ⟨r, c1, hr⟩ := htr i hi
        rw [rowsOf_row _ _ _ _ hi] at hr
        obtain ⟨gr, o, c, rfl, _, _, h1, h2⟩ := hr.some (by simp; omega)
        refine ⟨gr, o, c, h1, by rw [c1]; simp, fun j hj => ?_⟩
        have := h2 j (by simp; exact hj)
        rw [range_getD _ _ _ hj] at this
        exact this
      clear hT htr ht
      subst htv
      go_wp2_with fail
      generalize hbs : w1.heap.size = base at *
      go_loopw [8, 9] (fun vo vi wr => ∃ k : Nat, k ≤ n ∧ vi = .int .i64 (k : Int) ∧ Owns 5 base vo (U8s (ans.take k)).toList wr ∧ Below base w1 wr) (fun _ vi _ => n - (intOf vi).toNat)
      case atStart => exact ⟨0, by omega, rfl, Owns.nil 5 base _, by rw [← hbs]; exact Below.refl _ _⟩
      case round =>
        obtain ⟨k, hk, rfl, ho, hb⟩ := hrel
        obtain ⟨wo, hwo⟩ : ∃ wo, wo = wr := ⟨_, rfl⟩
        subst hwo
        have hsz : base ≤ wo.heap.size := by rw [← hbs]; exact hb.size
        by_cases hlt : k < n
        · obtain ⟨gr, o, c, q1, q2, q3⟩ := HTR.out k hlt
          obtain ⟨gl, ol, rfl, hgl, hld⟩ := HLC.out (by omega)
          have HCl : Hid (∀ W, Below wo.heap.size wo W → W.cell? ⟨gt, ot + k, none⟩ = some (.slice (some ⟨gr, o, none⟩) n c) ∧ ∀ j, j < n → W.cell? ⟨gr, o + j, none⟩ = some (.int .u8 (N k j : Int)) ∧ W.cell? ⟨gl, ol + j, none⟩ = some (.int .u8 ((l.getD j 0 : Nat) : Int))) := fun W hW => by
            have hBW : Below base w1 W := hb.trans (hW.mono hsz)
            exact ⟨cell_below hBW hgt q2, fun j hj => ⟨cell_below hBW q1 (q3 j hj), cell_below (belowCall b1 (by rw [hbs]; exact hBW)) hgl (hld j hj)⟩⟩
          have d0 : (k : Int) < (n : Int) := by omega
          have HPk := hid (HP.out k)
          have HTkk := hid (HTk.out k hlt)
          clear q2 q3 hld
          go_wp2_with fail
          generalize hB : wo.heap.size = WB at *
          go_loopw [10, 11] (fun vx vj W => ∃ j : Nat, j ≤ n ∧ vj = .int .i64 (j : Int) ∧ vx = .int .u8 ((El.xs j (fun q => Fld.mul (N k q) (l.getD q 0)) : Nat) : Int) ∧ Below WB wo W) (fun _ vj _ => n - (intOf vj).toNat)
          case atStart => exact ⟨0, by omega, rfl, rfl, by rw [← hB]; exact Below.refl _ _⟩
          case round =>
            obtain ⟨j, hj, rfl, rfl, hbW⟩ := hrel
            by_cases hjl : j < n
            · obtain ⟨t1, t2⟩ := HCl.out _ hbW
              obtain ⟨t3, t4⟩ := t2 j hjl
              have p1 := HB.out k j
              have p2 := getD_lt HLX.out j
              have p3 := El.xs_lt (g := fun q => Fld.mul (N k q) (l.getD q 0)) (fun _ => Fld.mul_lt _ _) j
              have HNx : Hid (El.xs (j + 1) (fun q => Fld.mul (N k q) (l.getD q 0)) = El.xs j (fun q => Fld.mul (N k q) (l.getD q 0)) ^^^ Fld.mul (N k j) (l.getD j 0)) := rfl
              generalize El.xs j (fun q => Fld.mul (N k q) (l.getD q 0)) = t at *
              generalize N k j = x1 at *
              generalize l.getD j 0 = x2 at *
              have X1 : Hid (bits .xor .u8 (t : Int) ((Fld.mul x1 x2 : Nat) : Int) = ((t ^^^ Fld.mul x1 x2 : Nat) : Int)) := u8_xor_nat t _ p3 (Fld.mul_lt _ _)
              have d1 : (j : Int) < (n : Int) := by omega
              clear t2
              go_wp2_with fail
              go_quiet ((go_at_call 31; exact Calls.quiet_of_same (refMul_any x1 x2 p1 p2 _)))
              go_wp2_with fail
              exact ⟨⟨j + 1, by omega, rfl, by rw [HNx.out, X1.out], below_drewN hbW _⟩, by simp [intOf]; omega⟩
            · obtain rfl : j = n := by omega
              have ho' := ho.below (by rw [hB]; exact hbW)
              have hsz2 : base ≤ wr.heap.size := Nat.le_trans hsz (by rw [← hB]; exact hbW.size)
              have HTk2 : Hid (ans.take k ++ [El.xs j (fun q => Fld.mul (N k q) (l.getD q 0))] = ans.take (k + 1)) := by unfold Hid; rw [← HTkk.out]; rfl
              have ht256 := El.xs_lt (g := fun q => Fld.mul (N k q) (l.getD q 0)) (fun _ => Fld.mul_lt _ _) j
              generalize El.xs j (fun q => Fld.mul (N k q) (l.getD q 0)) = t at *
              have hr1 : Hid (Row8 (wr.alloc (.cells #[.int .u8 (t : Int)] 5)) (.slice (some ⟨wr.heap.size, 0, none⟩) 1 1) [t]) := by
                have hH := Has.new wr wr.heap.size #[.int .u8 (t : Int)] 5 rfl
                refine ⟨_, _, rfl, by simp, fun x hx => by simp only [List.mem_singleton] at hx; subst hx; exact ht256, fun _ => ⟨wr.heap.size, 0, rfl, hH.lt, fun q hq => ?_⟩⟩
                have hq1 : q < 1 := hq
                obtain rfl : q = 0 := by omega
                exact hH.cell 0
              have hlk := HTl.out k
              go_wp2_with (refine wpList_appR rfl (.tmp 55) (.tmp 57) rfl base _ _ (ans.take k) [t] rfl (by exact ho'.alloc _) rfl (by exact hr1.out) (Nat.succ_le_succ hlk) (Nat.le_trans hsz2 (by simp)) ?_; intro v' w2 ho2 hg2 hb2)
              rw [HTk2.out] at ho2
              have B2 : Below base w1 w2 := ((hb.trans (hbW.mono hsz)).alloc hsz2 _).trans hb2
              exact ⟨⟨k + 1, by omega, rfl, ho2, B2⟩, by simp [intOf]; omega⟩
        · obtain rfl : k = n := by omega
          rw [HTe.out] at ho
          have hrow := hid (ho.mono (by rw [← hbs]; exact b1.size))
          clear ho
          go_wp2_with fail
          go_ret2
          exact ⟨_, by rw [E2.out.1]; rfl, by rw [E2.out.2]; exact hrow.out, belowCall b1 (by rw [hbs]; exact hb)⟩
    · have E1 : errT m = 5 := by unfold errT; rw [hs, if_pos rfl, if_neg hr]
      have E2 : Hid (errS m l = 5 ∧ ansS m l = []) := by
        unfold Hid errS ansS; rw [hok, if_pos rfl, if_neg hr, decide_eq_false hr]; exact ⟨rfl, rfl⟩
      rw [E1] at ht
      clear hll hr hs'
      go_enter Try.func16, Try.ntmps16
      go_wp2_with fail
      refine ht.out.mono ?_
      rintro e w1 ⟨t, rfl, hT, b1⟩
      clear hT
      go_wp2_with fail
      go_ret2
      exact ⟨_, by rw [E2.out.1]; rfl, by rw [E2.out.2]; exact Owns.nil _ _ _, b1⟩
  · have E2 : Hid (errS m l = 4 ∧ ansS m l = []) := by
      unfold Hid errS ansS; rw [if_neg hok, show okS m l = false from by simpa using hok]; exact ⟨rfl, rfl⟩
    by_cases hs : sqM m = true
    · have hll : l.length ≠ m.length := fun hh => hok (by unfold okS; rw [hs, decide_eq_true hh]; rfl)
      have e0 : ((l.length : Int) != (m.length : Int)) = true := by simp; omega
      have e4 : (errT m == 4) = false := by
        unfold errT; rw [hs, if_pos rfl]
        by_cases hr : rankM m = m.length
        · rw [if_pos hr]; rfl
        · rw [if_neg hr]; rfl
      clear hok
      generalize errT m = et at *
      go_enter Try.func16, Try.ntmps16
      go_wp2_with fail
      refine ht.out.mono ?_
      rintro e w1 ⟨t, rfl, hT, b1⟩
      clear hT
      go_wp2_with fail
      go_ret2
      exact ⟨_, by rw [E2.out.1]; rfl, by rw [E2.out.2]; exact Owns.nil _ _ _, b1⟩
    · have E1 : errT m = 4 := by unfold errT; rw [if_neg hs]
      rw [E1] at ht
      clear hok hs
      go_enter Try.func16, Try.ntmps16
      go_wp2_with fail
      refine ht.out.mono ?_
      rintro e w1 ⟨t, rfl, hT, b1⟩
      clear hT
      go_wp2_with fail
      go_ret2
      exact ⟨_, by rw [E2.out.1]; rfl, by rw [E2.out.2]; exact Owns.nil _ _ _, b1⟩
end Go.Proofs.Ytjgjcbgeekfkkaa
