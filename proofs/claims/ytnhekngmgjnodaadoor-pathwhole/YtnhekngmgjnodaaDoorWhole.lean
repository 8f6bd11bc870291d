/- The walk of PathWhole. -/
import Derived.Test.YtnhekngmgjnodaaDoorWNum
namespace Go.Proofs.YtnhekngmgjnodaaDoor
open Go.RowKit
open Pa
set_option linter.unusedVariables false
section
variable {ev : Operand → Value} {o : Oper} {w : World} {x y z : Operand}
theorem rn_ix27 {g f n c i : Nat} (ho : o.op = .indexAddr 27 x y) (hx : ev x = .slice (some ⟨g, f, none⟩) n c) (hy : ev y = .int .i64 (i : Int)) (hi : i < n) : (execOp ev o).run Tryd.prog w = .ok (.value (.pointer (some ⟨g, f + i, none⟩))) w := by
  have q1 : (i : Int) < (n : Int) := by omega
  simp [execOp, ho, hx, hy, go_sem, q1]
theorem rn_geq3 {u v : Int} {c : Bool} (ho : o.op = .binOp .geq 3 x y 3) (hx : ev x = .int .i64 u) (hy : ev y = .int .i64 v) (hc : decide (v ≤ u) = c) : (execOp ev o).run Tryd.prog w = .ok (.value (.bool c)) w := by
  subst hc; simp [execOp, ho, hx, hy, go_sem]
theorem rn_leq3 {u v : Int} {c : Bool} (ho : o.op = .binOp .leq 3 x y 3) (hx : ev x = .int .i64 u) (hy : ev y = .int .i64 v) (hc : decide (u ≤ v) = c) : (execOp ev o).run Tryd.prog w = .ok (.value (.bool c)) w := by
  subst hc; simp [execOp, ho, hx, hy, go_sem]
end
def wkV0 (gk nk kc p q n c y : Nat) (A : Option Addr) : Nat → Value
  | 145 => .slice (some ⟨gk, 0, none⟩) nk kc
  | 146 => .int .i64 (p : Int)
  | 147 => .pointer (some ⟨gk, 0 + p, none⟩)
  | 148 => .int .i64 (q : Int)
  | 149 => .bool false
  | 150 => .bool false
  | 151 => .slice (some ⟨gk, 0, none⟩) nk kc
  | 152 => .int .i64 (p : Int)
  | 153 => .pointer (some ⟨gk, 0 + p, none⟩)
  | 154 => .int .i64 (q : Int)
  | 155 => .slice A n c
  | 156 => .int .i64 (n : Int)
  | 157 => .bool false
  | 158 => .bool false
  | 159 => .bool false
  | 160 => .int .i64 (p : Int)
  | 161 => .bool false
  | 162 => .bool false
  | 173 => .bool false
  | 174 => .bool false
  | _ => undef
def wkF0 (gk nk kc p q n c y : Nat) (A : Option Addr) (d : Nat) (v : Value) (_ : World) : Prop := v = wkV0 gk nk kc p q n c y A d
def wkV1 (gk nk kc p q n c y : Nat) (A : Option Addr) : Nat → Value
  | 145 => .slice (some ⟨gk, 0, none⟩) nk kc
  | 146 => .int .i64 (p : Int)
  | 147 => .pointer (some ⟨gk, 0 + p, none⟩)
  | 148 => .int .i64 (q : Int)
  | 149 => .bool false
  | 150 => .bool false
  | 151 => .slice (some ⟨gk, 0, none⟩) nk kc
  | 152 => .int .i64 (p : Int)
  | 153 => .pointer (some ⟨gk, 0 + p, none⟩)
  | 154 => .int .i64 (q : Int)
  | 155 => .slice A n c
  | 156 => .int .i64 (n : Int)
  | 157 => .bool false
  | 158 => .bool false
  | 159 => .bool false
  | 160 => .int .i64 (p : Int)
  | 161 => .bool true
  | 162 => .bool true
  | 163 => .slice (some ⟨gk, 0, none⟩) nk kc
  | 164 => .int .i64 (p : Int)
  | 165 => .pointer (some ⟨gk, 0 + p, none⟩)
  | 166 => .int .i64 (q : Int)
  | 167 => .slice (some ⟨gk, 0, none⟩) nk kc
  | 168 => .int .i64 (p : Int)
  | 169 => .int .i64 ((p - 1 : Nat) : Int)
  | 170 => .pointer (some ⟨gk, 0 + (p - 1), none⟩)
  | 171 => .int .i64 (y : Int)
  | 172 => .bool false
  | 173 => .bool false
  | 174 => .bool false
  | _ => undef
def wkF1 (gk nk kc p q n c y : Nat) (A : Option Addr) (d : Nat) (v : Value) (_ : World) : Prop := v = wkV1 gk nk kc p q n c y A d
theorem makes27 (n : Nat) (hn : n ≤ 1000000) : ∃ zs : Array Value, zs.size = n ∧ zs.toList = List.replicate n (.int .i64 0) ∧ ∀ w : World, (Instr.makeSlice 27 (.int .i64 (n : Int)) (.int .i64 (n : Int))).run Tryd.prog w = .ok (.slice (some ⟨w.heap.size, 0, none⟩) n n) (w.alloc (.cells zs 3)) := by
  obtain ⟨i, hi, h1, h2, h3⟩ := info_parts info3z
  refine ⟨madeCells (Value.int .i64 0).cells (n * i.size), ?_, ?_, fun w => ?_⟩
  · simp [madeCells, h2]
  · rw [h2, Nat.mul_one]; exact toList_madeCells_one _ _
  · rw [run_make w 27 3 i _ Tryd.underlying27 hi h1 .i64 .i64 (n : Int) (n : Int) (by omega) (by omega) (by rw [h3]; omega) (by omega)]
    simp
theorem fs_take {w : World} {A : Option Addr} {l : List Fl} (h : Fs w A l) (m : Nat) : Fs w A (l.take m) := fun j hj => by
  rw [List.length_take] at hj
  have e : (l.take m).getD j default = l.getD j default := by
    rw [List.getD_eq_getElem?_getD, List.getD_eq_getElem?_getD, List.getElem?_take_of_lt (by omega)]
  rw [e]
  exact h j (by omega)
theorem small_take {l : List Fl} (h : Small l) (m : Nat) : Small (l.take m) :=
  ⟨by have := h.1; rw [List.length_take]; omega, fun x hx => h.2 x (List.mem_of_mem_take hx)⟩
theorem jK_size {T : List ByteArray} (h : ∀ x ∈ T, x.size ≤ 400) : ∀ k, k ≤ T.length → (jK T k).size ≤ k * 402
  | 0, _ => Nat.zero_le _
  | k + 1, hk => by
    have ih := jK_size h k (by omega)
    have hx := h _ (getD_mem (show k < T.length by omega))
    by_cases h0 : k = 0
    · subst h0
      rw [jK_first (by omega), ByteArray.size_append]
      omega
    · rw [jK_next (by omega) h0, ByteArray.size_append, ByteArray.size_append]
      have : slash.size = 1 := rfl
      omega
theorem flat_count (l : List Fl) (hl : l.length ≤ 300) (i : Nat) : ∀ (DS : List ByteArray), (DS.flatMap (kidsF l)).length ≤ DS.length * 300
  | [] => by simp
  | d :: r => by
    rw [List.flatMap_cons, List.length_append, List.length_cons]
    have h1 := flat_count l hl i r
    have h2 := kidsK_len l d l.length
    have h3 : (kidsF l d).length = (kidsK l d l.length).length := rfl
    omega
set_option maxRecDepth 20000 in
set_option maxHeartbeats 16000000 in
theorem whole_walk (l : List Fl) (A : Option Addr) (c : Nat) (hn : l.length ≤ 4611686018427387903) (hcap : l.length ≤ c)
    (hzl : ∀ x ∈ l, x.path.size ≤ 4611686018427387903 ∧ x.data.size ≤ 4611686018427387903) (w : World) (hl : Fs w A l) :
    Calls Tryd.prog 5 #[.slice A l.length c] w fun e w' => e = .returned (.bool true) ∧ Below w.heap.size w w' := by
  have HL := hid hl
  have CL := long_any l A c hn hzl w hl
  obtain ⟨n, hnn⟩ : ∃ x, x = l.length := ⟨_, rfl⟩
  have HN := hid hnn
  have HCAP := hid hcap
  rw [← hnn] at CL ⊢
  clear hnn hl hzl hn hcap
  go_enter Tryd.func5, Tryd.ntmps5
  go_wp2_with fail
  refine CL.mono ?_
  rintro e w1 ⟨rfl, b1⟩
  have B1 := hid b1
  clear b1 CL
  cases hlg : longB l with
  | true =>
    go_wp2_with fail
    refine (awake_any w1).mono ?_
    rintro e w2 ⟨rfl, b2⟩
    have B2 := hid (B1.out.trans (b2.mono B1.out.size))
    clear b2
    go_wp2_with fail
    go_ret
    exact ⟨rfl, B2.out⟩
  | false =>
    have SL := hid (long_small hlg)
    clear hlg
    go_wp2_with fail
    refine (awake_any w1).mono ?_
    rintro e w2 ⟨rfl, b2⟩
    have B2 := hid (B1.out.trans (b2.mono B1.out.size))
    have CT := tree_any l A c SL.out w2 (HL.out.below B2.out)
    rw [← HN.out] at CT
    clear b2 B1
    go_wp2_with fail
    refine CT.mono ?_
    rintro e w3 ⟨rfl, b3⟩
    have B3 := hid (B2.out.trans (b3.mono B2.out.size))
    clear b3 CT B2
    cases htr : treeP l with
    | false =>
      go_wp2_with fail
      go_ret
      exact ⟨rfl, B3.out⟩
    | true =>
      have HTR := hid htr
      have hn3 : n ≤ 300 := by rw [HN.out]; exact SL.out.1
      obtain ⟨zs, hzs, hzl, hmk⟩ := makes27 n (by omega)
      obtain ⟨tb, htb⟩ : ∃ tb, tb = w3.heap.size := ⟨_, rfl⟩
      obtain ⟨W1, hW1⟩ : ∃ W1, W1 = w3.alloc (.cells zs 3) := ⟨_, rfl⟩
      obtain ⟨q1, hq1⟩ : ∃ q1, q1 = W1.heap.size := ⟨_, rfl⟩
      obtain ⟨W2, hW2⟩ : ∃ W2, W2 = W1.alloc (.cells #[.string ⟨#[]⟩] 9) := ⟨_, rfl⟩
      have RT : Hid (W1.ownsRow tb 3 1 (.slice (some ⟨tb, 0, none⟩) n n) n (cntV [] n)) := hid (by
        rw [cntV_zero, ← hzl, htb, hW1]
        exact World.ownsRow_lit w3 zs n (Nat.le_refl _) (by have : 1000 ≤ maxLen := by decide
                                                            omega) (by rw [hzs, Nat.mul_one]))
      have RD : Hid (W2.ownsRow q1 9 1 (.slice (some ⟨q1, 0, none⟩) 1 1) 1 ((dsK l 0).map Value.string)) := hid (by
        rw [hq1, hW2]
        exact World.ownsRow_lit W1 #[.string ⟨#[]⟩] 1 (Nat.le_refl _) (by decide) rfl)
      have hz1 : W1.heap.size = tb + 1 := by rw [hW1, htb]; simp
      have BW1 : Hid (Below w.heap.size w W1) := hid (by rw [hW1]; exact B3.out.alloc B3.out.size _)
      have BW2 : Hid (Below q1 W1 W2) := hid (by rw [hW2, hq1]; exact (Below.refl _ _).alloc (Nat.le_refl _) _)
      have HQ : Hid (w.heap.size ≤ tb ∧ tb < q1 ∧ q1 = W1.heap.size) := hid ⟨by rw [htb]; exact B3.out.size, by rw [hq1, hz1]; omega, hq1⟩
      have HWL := hid (fun (W : World) (hW : Below q1 W1 W) => BW1.out.trans (hW.mono (by have := HQ.out; omega)))
      have HSZ := hid (fun (W : World) (hW : Below q1 W1 W) => (show q1 ≤ W.heap.size from Nat.le_trans (Nat.le_of_eq HQ.out.2.2) hW.size))
      clear htr
      go_upto_region 6 with fail
      rw [← hW1, ← htb]
      clear hW1 htb hmk hzs hzl hz1 B3
      go_upto_region 7 with fail
      rw [← hW2, ← hq1]
      clear hW2 hq1
      go_wp2_with fail
      go_loopw [4, 5, 6, 7, 8, 9, 10, 11] (fun v4 v5 v6 _ _ _ _ _ wr => ∃ (i sz dn : Nat) (DA : Option Addr) (dc : Nat), i ≤ n ∧ v6 = .int .i64 (i : Int) ∧ v5 = .int .i64 (sz : Int) ∧ v4 = .slice DA dn dc ∧ Hid (sz = sizeF (l.take i)) ∧ Hid (dn = (dsK l i).length) ∧ Hid (wr.ownsRow q1 9 1 (.slice DA dn dc) dn ((dsK l i).map Value.string)) ∧ Hid (Below q1 W1 wr)) (fun _ _ v6 _ _ _ _ _ _ => n - (intOf v6).toNat)
      case atStart => exact ⟨0, 0, 1, _, 1, Nat.zero_le _, rfl, rfl, rfl, hid rfl, hid rfl, RD, BW2⟩
      case round =>
        obtain ⟨i, sz, dn, DA, dc, hi, rfl, rfl, rfl, HZ, HDN, HD, HB⟩ := hrel
        by_cases hlt : i < n
        · have hil : i < l.length := by rw [← HN.out]; exact hlt
          obtain ⟨g, o, rfl, hg, m0, m1, m2⟩ := HL.out i hil
          have HG := hid hg
          have HTK := hid (take_next l default i hil)
          have hsm := SL.out.2 _ (getF_mem hil)
          have hpz := hsm.1
          have hdz := hsm.2
          have hsz := sizeF_take SL.out i
          rw [← HZ.out] at hsz
          have i1 : (i : Int) < (n : Int) := by omega
          have i0 : (0 : Int) ≤ (i : Int) := by omega
          have wk : IntKind.i64.wrap ((i : Int) + 1) = ((i + 1 : Nat) : Int) := by rw [IntKind.wrap_i64]; omega
          have HZ2 : Hid (sz + (l.getD i default).data.size = sizeF (l.take (i + 1))) := hid (by rw [HTK.out, sizeF_snoc, ← HZ.out])
          have HDY := hid (fun h => dsK_yes hil h)
          have HDNO := hid (fun h => dsK_no hil h)
          have hdl := dsK_len l i
          rw [← HDN.out, ← HN.out] at hdl
          have hmay := tree_may HTR.out hil
          generalize hx : l.getD i default = x at *
          clear hx hsm HTK
          obtain ⟨x0, x1, x2⟩ := x
          dsimp only at m0 m1 m2 hpz hdz HZ2 HDY HDNO hmay
          have c0 := ((HWL.out _ HB.out).cell (p := ⟨g, o + i * 3, none⟩) hg).trans m0
          have c1 := ((HWL.out _ HB.out).cell (p := ⟨g, o + i * 3 + 1, none⟩) hg).trans m1
          have c2 := ((HWL.out _ HB.out).cell (p := ⟨g, o + i * 3 + 2, none⟩) hg).trans m2
          have CELL0 := hid m0
          have CELL2 := hid m2
          clear m0 m1 m2 hg
          have wz : IntKind.i64.wrap ((sz : Int) + (x2.size : Int)) = ((sz + x2.size : Nat) : Int) := by rw [IntKind.wrap_i64]; omega
          have HAL := hid (above_len hmay)
          have HAB := hid (fun h => above_back hmay h)
          have CS := hid (fun W => steps_any x0 (by omega) W)
          have CA := hid (fun W => above_any x0 W (by omega))
          have CM := hid (fun W => (show Calls Tryd.prog 14 #[.string x0] W fun e w' => e = .returned (.bool true) ∧ Below W.heap.size W w' from by have := may_any x0 W (by omega); rwa [hmay] at this))
          have HJK := hid (jK_all x0)
          have HTZ : Hid (∀ y ∈ stepsB x0, y.size ≤ 400) := hid (by
            intro y hy
            rw [stepsB_yes (may_size hmay)] at hy
            have := spl_each x0 y hy
            omega)
          have HTL : Hid ((stepsB x0).length ≤ 401) := hid (by
            rw [stepsB_yes (may_size hmay)]
            have := splB_len x0
            omega)
          have HUZ : Hid ((abU x0).size ≤ 400) := hid (by have := ab_size x0; omega)
          clear hmay
          generalize stepsB x0 = T at *
          generalize abU x0 = up at *
          generalize abB x0 = ab at *
          obtain ⟨nt, hnt⟩ : ∃ x, x = T.length := ⟨_, rfl⟩
          have HNT := hid hnt
          rw [← hnt] at HAL HAB HJK HTL
          clear hnt
          cases x1 with
          | true =>
            have HS2 := hid (HDY.out rfl)
            obtain ⟨A2, c2', wz, hrun, hown, hbl⟩ := grow_tx HD.out x0 (by omega) (Nat.le_trans (Nat.le_of_eq HQ.out.2.2) HB.out.size)
            rw [← HS2.out] at hown
            have HRun := hid hrun
            have HD2 := hid hown
            have HDN2 : Hid (dn + 1 = (dsK l (i + 1)).length) := hid (by rw [HS2.out, List.length_append, ← HDN.out]; rfl)
            have HB2 := hid (HB.out.trans hbl)
            clear hrun hown hbl HD HB
            have a0 := ((HWL.out _ HB2.out).cell (p := ⟨g, o + i * 3, none⟩) HG.out).trans CELL0.out
            have a2 := ((HWL.out _ HB2.out).cell (p := ⟨g, o + i * 3 + 2, none⟩) HG.out).trans CELL2.out
            go_wp2_with (at_builtin; go_loud (refine wpList_val rfl (rn_app25 rfl rfl rfl rfl HRun.out) ?_))
            refine (CS.out wz).mono ?_
            rintro e wa ⟨v, rfl, ha, ba⟩
            obtain ⟨TA, tc, hv, _, _, hT⟩ := row_tx ha
            rw [← HNT.out] at ha hv
            subst hv
            have HT := hid hT
            have HD3 := hid (own_below HD2.out ba (Nat.le_refl _))
            have HB3 := hid (HB2.out.trans (ba.mono (HSZ.out _ HB2.out)))
            clear ha ba hT HD2 HB2 a0 a2 c0 c1 c2
            go_wp2_with fail
            go_loopw [7, 9] (fun v7 v9 wr => ∃ k : Nat, k ≤ nt ∧ v9 = .int .i64 (k : Int) ∧ v7 = .string (jK T k) ∧ wr = wa) (fun _ v9 _ => nt - (intOf v9).toNat)
            case atStart => exact ⟨0, Nat.zero_le _, rfl, rfl, rfl⟩
            case round =>
              obtain ⟨k, hk, rfl, rfl, rfl⟩ := hrel
              by_cases hlt2 : k < nt
              · have hkT : k < T.length := by rw [← HNT.out]; exact hlt2
                obtain ⟨g', o', rfl, _, d0⟩ := tx_cell HT.out (Below.refl _ _) hkT
                have hyz := HTZ.out _ (getD_mem hkT)
                have hjz := jK_size HTZ.out k (by omega)
                have hj402 : (jK T k).size ≤ 401 * 402 := Nat.le_trans hjz (Nat.mul_le_mul_right _ (by have := HTL.out; omega))
                have e0 : (0 : Int) ≤ (k : Int) := by omega
                have e1 : (k : Int) < (nt : Int) := by omega
                have wkk : IntKind.i64.wrap ((k : Int) + 1) = ((k + 1 : Nat) : Int) := by rw [IntKind.wrap_i64]; have := HTL.out; omega
                by_cases hk0 : k = 0
                · have HJ := hid (show jK T (k + 1) = jK T k ++ T.getD k ⟨#[]⟩ by subst hk0; exact jK_first hkT)
                  have e2 : ¬ (0 : Int) < (k : Int) := by omega
                  generalize T.getD k ⟨#[]⟩ = y at *
                  generalize jK T k = jk at *
                  have e3 : ¬ (9223372036854775807 : Int) < (jk.size : Int) + (y.size : Int) := by omega
                  clear hk0
                  go_wp2_with fail
                  go_roundw
                  case rel => exact ⟨k + 1, by omega, by rfl, by rw [HJ.out], trivial⟩
                  case measure => first | (simp [intOf]; done) | (simp [intOf]; omega)
                · have HJ := hid (jK_next hkT hk0)
                  have e2 : (0 : Int) < (k : Int) := by omega
                  generalize T.getD k ⟨#[]⟩ = y at *
                  generalize jK T k = jk at *
                  have e3 : ¬ (9223372036854775807 : Int) < (jk.size : Int) + 1 := by omega
                  have e4 : ¬ (9223372036854775807 : Int) < (((jk ++ slash).size : Nat) : Int) + (y.size : Int) := by
                    rw [ByteArray.size_append, show slash.size = 1 from rfl]; omega
                  have e5 : ¬ (9223372036854775807 : Int) < (jk.size : Int) + ((slash.size : Nat) : Int) := by rw [show slash.size = 1 from rfl]; omega
                  have e6 : ¬ (9223372036854775807 : Int) < (jk.size : Int) + 1 + (y.size : Int) := by omega
                  unfold slash at HJ e4 e5
                  clear hk0
                  go_wp2_with fail
                  go_roundw
                  case rel => exact ⟨k + 1, by omega, by rfl, by rw [HJ.out], trivial⟩
                  case measure => first | (simp [intOf]; done) | (simp [intOf]; omega)
              · obtain rfl : nt = k := by omega
                have j1 : ¬ ((nt : Int) < (nt : Int)) := by omega
                rw [HJK.out]
                generalize wr = wy at *
                have c9 := ((HWL.out _ HB3.out).cell (p := ⟨g, o + i * 3, none⟩) HG.out).trans CELL0.out
                go_wp2_with fail
                refine (CA.out wy).mono ?_
                rintro e wb ⟨rfl, bb⟩
                have HT4 := hid (HT.out.below bb)
                have HD4 := hid (own_below HD3.out bb (Nat.le_refl _))
                have HB4 := hid (HB3.out.trans (bb.mono (HSZ.out _ HB3.out)))
                have c0 := ((HWL.out _ HB4.out).cell (p := ⟨g, o + i * 3, none⟩) HG.out).trans CELL0.out
                have hss : (x0.toList == x0.toList) = true := by simp
                clear bb HD3 HB3 c9
                go_wp2_with fail
                refine (CM.out wb).mono ?_
                rintro e wc ⟨rfl, bb⟩
                have HT5 := hid (HT4.out.below bb)
                have HD5 := hid (own_below HD4.out bb (Nat.le_refl _))
                have HB5 := hid (HB4.out.trans (bb.mono (HSZ.out _ HB4.out)))
                clear bb HD4 HB4 c0
                cases ab with
                | false =>
                  have hle : ¬ 1 < nt := of_decide_eq_false HAL.out.symm
                  have e1 : ¬ (1 : Int) < (nt : Int) := by omega
                  go_wp2_with fail
                  go_roundw
                  case rel => exact ⟨i + 1, _, _, _, _, by omega, by rfl, rfl, rfl, HZ2, HDN2, HD5, HB5⟩
                  case measure => first | (simp [intOf]; done) | (simp [intOf]; omega)
                | true =>
                  have hle : 1 < nt := of_decide_eq_true HAL.out.symm
                  have e1 : (1 : Int) < (nt : Int) := by omega
                  have hT1 : nt - 1 < T.length := by rw [← HNT.out]; omega
                  obtain ⟨g', o', rfl, _, d0⟩ := tx_cell HT5.out (Below.refl _ _) hT1
                  have hyz := HTZ.out _ (getD_mem hT1)
                  have hback := HAB.out rfl
                  generalize T.getD (nt - 1) ⟨#[]⟩ = y at *
                  have wn1 : IntKind.i64.wrap ((nt : Int) - 1) = ((nt - 1 : Nat) : Int) := by rw [IntKind.wrap_i64]; have := HTL.out; omega
                  have e2 : (0 : Int) ≤ ((nt - 1 : Nat) : Int) := by omega
                  have e3 : ((nt - 1 : Nat) : Int) < (nt : Int) := by omega
                  have e7 : (((nt - 1 : Nat) : Int)).toNat = nt - 1 := by omega
                  have huz := HUZ.out
                  have e4 : ¬ (9223372036854775807 : Int) < (up.size : Int) + 1 := by omega
                  have e5 : ¬ (9223372036854775807 : Int) < (up.size : Int) + 1 + (y.size : Int) := by omega
                  have hbk : ((up ++ slash ++ y).toList == x0.toList) = true := by rw [hback]; simp
                  unfold slash at hbk
                  clear hback
                  go_wp2_with fail
                  go_roundw
                  case rel => exact ⟨i + 1, _, _, _, _, by omega, by rfl, rfl, rfl, HZ2, HDN2, HD5, HB5⟩
                  case measure => first | (simp [intOf]; done) | (simp [intOf]; omega)
          | false =>
            have HS2 := hid (HDNO.out rfl)
            have HD2 := HD
            rw [← HS2.out] at HD2
            have HDN2 : Hid (dn = (dsK l (i + 1)).length) := hid (by rw [HS2.out]; exact HDN.out)
            have HB2 := HB
            clear HD HB
            obtain ⟨wz, hwz⟩ : ∃ wz, wz = wr := ⟨_, rfl⟩
            rw [← hwz] at HD2 HB2 c0 c1 c2 ⊢
            clear hwz
            go_wp2_with fail
            refine (CS.out wz).mono ?_
            rintro e wa ⟨v, rfl, ha, ba⟩
            obtain ⟨TA, tc, hv, _, _, hT⟩ := row_tx ha
            rw [← HNT.out] at ha hv
            subst hv
            have HT := hid hT
            have HD3 := hid (own_below HD2.out ba (Nat.le_refl _))
            have HB3 := hid (HB2.out.trans (ba.mono (HSZ.out _ HB2.out)))
            clear ha ba hT HD2 HB2 c0 c1 c2
            go_wp2_with fail
            go_loopw [7, 9] (fun v7 v9 wr => ∃ k : Nat, k ≤ nt ∧ v9 = .int .i64 (k : Int) ∧ v7 = .string (jK T k) ∧ wr = wa) (fun _ v9 _ => nt - (intOf v9).toNat)
            case atStart => exact ⟨0, Nat.zero_le _, rfl, rfl, rfl⟩
            case round =>
              obtain ⟨k, hk, rfl, rfl, rfl⟩ := hrel
              by_cases hlt2 : k < nt
              · have hkT : k < T.length := by rw [← HNT.out]; exact hlt2
                obtain ⟨g', o', rfl, _, d0⟩ := tx_cell HT.out (Below.refl _ _) hkT
                have hyz := HTZ.out _ (getD_mem hkT)
                have hjz := jK_size HTZ.out k (by omega)
                have hj402 : (jK T k).size ≤ 401 * 402 := Nat.le_trans hjz (Nat.mul_le_mul_right _ (by have := HTL.out; omega))
                have e0 : (0 : Int) ≤ (k : Int) := by omega
                have e1 : (k : Int) < (nt : Int) := by omega
                have wkk : IntKind.i64.wrap ((k : Int) + 1) = ((k + 1 : Nat) : Int) := by rw [IntKind.wrap_i64]; have := HTL.out; omega
                by_cases hk0 : k = 0
                · have HJ := hid (show jK T (k + 1) = jK T k ++ T.getD k ⟨#[]⟩ by subst hk0; exact jK_first hkT)
                  have e2 : ¬ (0 : Int) < (k : Int) := by omega
                  generalize T.getD k ⟨#[]⟩ = y at *
                  generalize jK T k = jk at *
                  have e3 : ¬ (9223372036854775807 : Int) < (jk.size : Int) + (y.size : Int) := by omega
                  clear hk0
                  go_wp2_with fail
                  go_roundw
                  case rel => exact ⟨k + 1, by omega, by rfl, by rw [HJ.out], trivial⟩
                  case measure => first | (simp [intOf]; done) | (simp [intOf]; omega)
                · have HJ := hid (jK_next hkT hk0)
                  have e2 : (0 : Int) < (k : Int) := by omega
                  generalize T.getD k ⟨#[]⟩ = y at *
                  generalize jK T k = jk at *
                  have e3 : ¬ (9223372036854775807 : Int) < (jk.size : Int) + 1 := by omega
                  have e4 : ¬ (9223372036854775807 : Int) < (((jk ++ slash).size : Nat) : Int) + (y.size : Int) := by
                    rw [ByteArray.size_append, show slash.size = 1 from rfl]; omega
                  have e5 : ¬ (9223372036854775807 : Int) < (jk.size : Int) + ((slash.size : Nat) : Int) := by rw [show slash.size = 1 from rfl]; omega
                  have e6 : ¬ (9223372036854775807 : Int) < (jk.size : Int) + 1 + (y.size : Int) := by omega
                  unfold slash at HJ e4 e5
                  clear hk0
                  go_wp2_with fail
                  go_roundw
                  case rel => exact ⟨k + 1, by omega, by rfl, by rw [HJ.out], trivial⟩
                  case measure => first | (simp [intOf]; done) | (simp [intOf]; omega)
              · obtain rfl : nt = k := by omega
                have j1 : ¬ ((nt : Int) < (nt : Int)) := by omega
                rw [HJK.out]
                generalize wr = wy at *
                have c9 := ((HWL.out _ HB3.out).cell (p := ⟨g, o + i * 3, none⟩) HG.out).trans CELL0.out
                go_wp2_with fail
                refine (CA.out wy).mono ?_
                rintro e wb ⟨rfl, bb⟩
                have HT4 := hid (HT.out.below bb)
                have HD4 := hid (own_below HD3.out bb (Nat.le_refl _))
                have HB4 := hid (HB3.out.trans (bb.mono (HSZ.out _ HB3.out)))
                have c0 := ((HWL.out _ HB4.out).cell (p := ⟨g, o + i * 3, none⟩) HG.out).trans CELL0.out
                have hss : (x0.toList == x0.toList) = true := by simp
                clear bb HD3 HB3 c9
                go_wp2_with fail
                refine (CM.out wb).mono ?_
                rintro e wc ⟨rfl, bb⟩
                have HT5 := hid (HT4.out.below bb)
                have HD5 := hid (own_below HD4.out bb (Nat.le_refl _))
                have HB5 := hid (HB4.out.trans (bb.mono (HSZ.out _ HB4.out)))
                clear bb HD4 HB4 c0
                cases ab with
                | false =>
                  have hle : ¬ 1 < nt := of_decide_eq_false HAL.out.symm
                  have e1 : ¬ (1 : Int) < (nt : Int) := by omega
                  go_wp2_with fail
                  go_roundw
                  case rel => exact ⟨i + 1, _, _, _, _, by omega, by rfl, rfl, rfl, HZ2, HDN2, HD5, HB5⟩
                  case measure => first | (simp [intOf]; done) | (simp [intOf]; omega)
                | true =>
                  have hle : 1 < nt := of_decide_eq_true HAL.out.symm
                  have e1 : (1 : Int) < (nt : Int) := by omega
                  have hT1 : nt - 1 < T.length := by rw [← HNT.out]; omega
                  obtain ⟨g', o', rfl, _, d0⟩ := tx_cell HT5.out (Below.refl _ _) hT1
                  have hyz := HTZ.out _ (getD_mem hT1)
                  have hback := HAB.out rfl
                  generalize T.getD (nt - 1) ⟨#[]⟩ = y at *
                  have wn1 : IntKind.i64.wrap ((nt : Int) - 1) = ((nt - 1 : Nat) : Int) := by rw [IntKind.wrap_i64]; have := HTL.out; omega
                  have e2 : (0 : Int) ≤ ((nt - 1 : Nat) : Int) := by omega
                  have e3 : ((nt - 1 : Nat) : Int) < (nt : Int) := by omega
                  have e7 : (((nt - 1 : Nat) : Int)).toNat = nt - 1 := by omega
                  have huz := HUZ.out
                  have e4 : ¬ (9223372036854775807 : Int) < (up.size : Int) + 1 := by omega
                  have e5 : ¬ (9223372036854775807 : Int) < (up.size : Int) + 1 + (y.size : Int) := by omega
                  have hbk : ((up ++ slash ++ y).toList == x0.toList) = true := by rw [hback]; simp
                  unfold slash at hbk
                  clear hback
                  go_wp2_with fail
                  go_roundw
                  case rel => exact ⟨i + 1, _, _, _, _, by omega, by rfl, rfl, rfl, HZ2, HDN2, HD5, HB5⟩
                  case measure => first | (simp [intOf]; done) | (simp [intOf]; omega)
        · obtain rfl : n = i := by omega
          have j1 : ¬ ((n : Int) < (n : Int)) := by omega
          have hszl : sz = sizeF l := by rw [HZ.out, HN.out, List.take_length]
          have HD' : Hid (wr.ownsRow q1 9 1 (.slice DA dn dc) dn ((dsK l l.length).map Value.string)) := hid (by rw [← HN.out]; exact HD.out)
          have HDN' : Hid (dn = (dsK l l.length).length) := hid (by rw [← HN.out]; exact HDN.out)
          have hdl := dsK_len l l.length
          rw [← HDN'.out, ← HN.out] at hdl
          have HTM : Hid (wr.ownsRow tb 3 1 (.slice (some ⟨tb, 0, none⟩) n n) n (cntV (((dsK l l.length).take 0).flatMap (kidsF l)) n)) := hid (own_below RT.out HB.out (Nat.le_of_eq HQ.out.2.2.symm))
          have HBW := hid (HWL.out _ HB.out)
          have HQS := hid (HSZ.out _ HB.out)
          subst hszl
          have HALL := hid (fun (x : Nat) (hx : x < n) => all_once HTR.out (i := x) (by rw [← HN.out]; exact hx))
          have HINI := hid (tree_init HTR.out (n - 1))
          generalize hDS : dsK l l.length = DS at *
          clear hDS HD HDN HB RT RD BW1 BW2 HWL HSZ HZ
          go_wp2_with fail
          go_loopw [12, 13, 14] (fun v12 _ _ wz => ∃ j : Nat, j ≤ dn ∧ v12 = .int .i64 (j : Int) ∧ Hid (wz.ownsRow tb 3 1 (.slice (some ⟨tb, 0, none⟩) n n) n (cntV ((DS.take j).flatMap (kidsF l)) n)) ∧ Hid (wz.ownsRow q1 9 1 (.slice DA dn dc) dn (DS.map Value.string)) ∧ Hid (Below w.heap.size w wz) ∧ Hid (q1 ≤ wz.heap.size)) (fun v12 _ _ _ => dn - (intOf v12).toNat)
          case atStart => exact ⟨0, Nat.zero_le _, rfl, HTM, HD', HBW, HQS⟩
          case round =>
            obtain ⟨j, hj, rfl, XT, XD, XB, XQ⟩ := hrel
            generalize wr = wx at *
            by_cases hlt3 : j < dn
            · have hjd : j < DS.length := by rw [← HDN'.out]; exact hlt3
              obtain ⟨gd, rfl, _, _, dcell, _, _⟩ := own_cell XD.out hlt3
              rw [strv_get DS hjd] at dcell
              have HTN := hid (take_next DS ⟨#[]⟩ j hjd)
              have e0 : (0 : Int) ≤ (j : Int) := by omega
              have e1 : (j : Int) < (dn : Int) := by omega
              have wj : IntKind.i64.wrap ((j : Int) + 1) = ((j + 1 : Nat) : Int) := by rw [IntKind.wrap_i64]; omega
              have CK := kids_any l A c (DS.getD j ⟨#[]⟩) SL.out wx (HL.out.below XB.out)
              rw [← HN.out] at CK
              have HFL := flat_count l SL.out.1 0 (DS.take j)
              rw [List.length_take] at HFL
              have hfl2 : ((DS.take j).flatMap (kidsF l)).length ≤ 301 * 300 := Nat.le_trans HFL (Nat.mul_le_mul_right _ (by omega))
              have HKL : (kidsF l (DS.getD j ⟨#[]⟩)).length ≤ 300 := by have h1 := kidsK_len l (DS.getD j ⟨#[]⟩) l.length; have h2 := SL.out.1; unfold kidsF; omega
              have HF2 : Hid ((DS.take (j + 1)).flatMap (kidsF l) = (DS.take j).flatMap (kidsF l) ++ kidsF l (DS.getD j ⟨#[]⟩)) := hid (by rw [HTN.out, List.flatMap_append]; simp)
              have HKLT := hid (fun (x : Nat) hx => kidsF_lt l (DS.getD j ⟨#[]⟩) (i := x) hx)
              have HKN := hid (fun (x : Nat) hx h0 => kidsF_next l (DS.getD j ⟨#[]⟩) (i := x) hx h0)
              generalize DS.getD j ⟨#[]⟩ = d at *
              generalize kidsF l d = K at *
              generalize (DS.take j).flatMap (kidsF l) = F0 at *
              obtain ⟨nk, hnk⟩ : ∃ x, x = K.length := ⟨_, rfl⟩
              have HNK := hid hnk
              rw [← hnk] at CK HKL HKLT HKN
              clear hnk HTN HFL
              go_wp2_with fail
              refine CK.mono ?_
              rintro e wa ⟨v, rfl, ha, ba⟩
              obtain ⟨KA, kc, hv, _, _, _⟩ := row_form ha
              subst hv
              have XK := hid ha
              have XT2 : Hid (wa.ownsRow tb 3 1 (.slice (some ⟨tb, 0, none⟩) n n) n (cntV (F0 ++ K.take 0) n)) := hid (by rw [List.take_zero, List.append_nil]; exact own_below XT.out ba (Nat.le_refl _))
              have XD2 := hid (own_below XD.out ba (Nat.le_refl _))
              have XB2 := hid (XB.out.trans (ba.mono XB.out.size))
              have XQ2 : Hid (q1 ≤ wa.heap.size) := hid (Nat.le_trans XQ.out ba.size)
              have XWX : Hid (tb < wx.heap.size) := hid (Nat.lt_of_lt_of_le HQ.out.2.1 XQ.out)
              clear ha ba XT XD XB XQ CK dcell
              go_wp2_with fail
              go_loopw [14] (fun v14 wz => ∃ p : Nat, p ≤ nk ∧ v14 = .int .i64 (p : Int) ∧ Hid (wz.ownsRow tb 3 1 (.slice (some ⟨tb, 0, none⟩) n n) n (cntV (F0 ++ K.take p) n)) ∧ Hid (wz.ownsRow q1 9 1 (.slice (some ⟨gd, 0, none⟩) dn dc) dn (DS.map Value.string)) ∧ Hid (wz.ownsRow wx.heap.size 3 1 (.slice KA nk kc) nk (K.map nI)) ∧ Hid (Below w.heap.size w wz) ∧ Hid (q1 ≤ wz.heap.size)) (fun v14 _ => nk - (intOf v14).toNat)
              case atStart => exact ⟨0, Nat.zero_le _, rfl, XT2, XD2, XK, XB2, XQ2⟩
              case round =>
                obtain ⟨p, hp, rfl, YT, YD, YK, YB, YQ⟩ := hrel
                generalize wr = wy at *
                clear XT2 XD2 XK XB2 XQ2
                by_cases hlt4 : p < nk
                · have hpk : p < K.length := by rw [← HNK.out]; exact hlt4
                  have hqn := HKLT.out p hlt4
                  rw [← HN.out] at hqn
                  obtain ⟨gk, rfl, _, hgk, kcell, _, _⟩ := own_cell YK.out hlt4
                  rw [intv_get K hpk] at kcell
                  have HGK := hid hgk
                  have HKT := hid (take_next K 0 p hpk)
                  have HPRE := hid (fun (h0 : ¬ p = 0) => (show ∃ y : Nat, y < K.getD p 0 ∧ wy.cell? ⟨gk, p - 1, none⟩ = some (.int .i64 (y : Int)) from by
                    obtain ⟨g9, eg, _, _, kc9, _, _⟩ := own_cell YK.out (show p - 1 < nk by omega)
                    cases eg
                    rw [intv_get K (show p - 1 < K.length by omega)] at kc9
                    exact ⟨_, HKN.out p hlt4 h0, kc9⟩))
                  generalize K.getD p 0 = q at *
                  have HNZ := hid (fun (i : Nat) => Nat.zero_add i)
                  have kcz : wy.cell? ⟨gk, 0 + p, none⟩ = some (.int .i64 (q : Int)) := by rw [Nat.zero_add]; exact kcell
                  have f4 : decide ((q : Int) < 0) = false := decide_eq_false (by omega)
                  have f5 : decide ((n : Int) ≤ (q : Int)) = false := decide_eq_false (by omega)
                  by_cases hp0 : p = 0
                  · have f6 : decide ((0 : Int) < (p : Int)) = false := decide_eq_false (by omega)
                    clear hp0 HPRE
                    go_wp2_with fail
                    refine Tl.wp_mix_lit (by kernel_rfl) 30 [145, 146, 147, 148, 149, 150, 151, 152, 153, 154, 155, 156, 157, 158, 159, 160, 161, 162, 163, 164, 165, 166, 167, 168, 169, 170, 171, 172, 173, 174] 212 rfl (by kernel_rfl) (Below wy.heap.size wy) (wkF0 gk nk kc p q n c q A) ((Below.refl _ _).drew)
                      ⟨fun a' W' hC hF => ?_, fun a' W' hC hF => ?_, fun a' W' hC hF => ?_, fun a' W' hC hF => ?_, fun a' W' hC hF => ?_, fun a' W' hC hF => ?_, fun a' W' hC hF => ?_, fun a' W' hC hF => ?_, fun a' W' hC hF => ?_, fun a' W' hC hF => ?_, fun a' W' hC hF => ?_, fun a' W' hC hF => ?_, fun a' W' hC hF => ?_, fun a' W' hC hF => ?_, fun a' W' hC hF => ?_, fun a' W' hC hF => ?_, fun a' W' hC hF => ?_, fun a' W' hC hF => ?_, fun a' W' hC hF => ?_, fun a' W' hC hF => ?_, fun a' W' hC hF => ?_, fun a' W' hC hF => ?_, fun a' W' hC hF => ?_, fun a' W' hC hF => ?_, fun a' W' hC hF => ?_, fun a' W' hC hF => ?_, fun a' W' hC hF => ?_, fun a' W' hC hF => ?_, fun a' W' hC hF => ?_, fun a' W' hC hF => ?_, trivial⟩ ?_
                    · exact Tl.sm_v 145 _ rfl (Tl.wanted_none rfl) hC rfl (rn_move rfl ((hF 13 (by decide +kernel)).2 (by decide)))
                    · exact Tl.sm_v 146 _ rfl (Tl.wanted_none rfl) hC rfl (rn_move rfl ((hF 14 (by decide +kernel)).2 (by decide)))
                    · exact Tl.sm_v 147 _ rfl (Tl.wanted_none rfl) hC rfl (rn_ix27 rfl (show Act.eval a' (.tmp 145) = .slice (some ⟨gk, 0, none⟩) nk kc from ((hF 145 (by decide +kernel)).1 (by decide))) (show Act.eval a' (.tmp 146) = .int .i64 (p : Int) from ((hF 146 (by decide +kernel)).1 (by decide))) hlt4)
                    · exact Tl.sm_v 148 _ rfl (Tl.wanted_none rfl) hC rfl (rn_load3 rfl (show Act.eval a' (.tmp 147) = .pointer (some ⟨gk, 0 + p, none⟩) from ((hF 147 (by decide +kernel)).1 (by decide))) ((hC.cell (p := ⟨gk, 0 + p, none⟩) HGK.out).trans kcz))
                    · exact Tl.sm_v 149 _ rfl (Tl.wanted_none rfl) hC rfl (rn_lss3 rfl (show Act.eval a' (.tmp 148) = .int .i64 (q : Int) from ((hF 148 (by decide +kernel)).1 (by decide))) rfl f4)
                    · exact Tl.sm_v 150 _ rfl (Tl.wanted_none rfl) hC rfl (rn_move rfl (show Act.eval a' (.tmp 149) = .bool false from ((hF 149 (by decide +kernel)).1 (by decide))))
                    · exact Tl.sm_v 151 _ rfl (Tl.wanted_is rfl rfl (show Act.eval a' (.tmp 150) = .bool false from ((hF 150 (by decide +kernel)).1 (by decide)))) hC rfl (rn_move rfl ((hF 13 (by decide +kernel)).2 (by decide)))
                    · exact Tl.sm_v 152 _ rfl (Tl.wanted_is rfl rfl (show Act.eval a' (.tmp 150) = .bool false from ((hF 150 (by decide +kernel)).1 (by decide)))) hC rfl (rn_move rfl ((hF 14 (by decide +kernel)).2 (by decide)))
                    · exact Tl.sm_v 153 _ rfl (Tl.wanted_is rfl rfl (show Act.eval a' (.tmp 150) = .bool false from ((hF 150 (by decide +kernel)).1 (by decide)))) hC rfl (rn_ix27 rfl (show Act.eval a' (.tmp 151) = .slice (some ⟨gk, 0, none⟩) nk kc from ((hF 151 (by decide +kernel)).1 (by decide))) (show Act.eval a' (.tmp 152) = .int .i64 (p : Int) from ((hF 152 (by decide +kernel)).1 (by decide))) hlt4)
                    · exact Tl.sm_v 154 _ rfl (Tl.wanted_is rfl rfl (show Act.eval a' (.tmp 150) = .bool false from ((hF 150 (by decide +kernel)).1 (by decide)))) hC rfl (rn_load3 rfl (show Act.eval a' (.tmp 153) = .pointer (some ⟨gk, 0 + p, none⟩) from ((hF 153 (by decide +kernel)).1 (by decide))) ((hC.cell (p := ⟨gk, 0 + p, none⟩) HGK.out).trans kcz))
                    · exact Tl.sm_v 155 _ rfl (Tl.wanted_is rfl rfl (show Act.eval a' (.tmp 150) = .bool false from ((hF 150 (by decide +kernel)).1 (by decide)))) hC rfl (rn_move rfl ((hF 0 (by decide +kernel)).2 (by decide)))
                    · exact Tl.sm_v 156 _ rfl (Tl.wanted_is rfl rfl (show Act.eval a' (.tmp 150) = .bool false from ((hF 150 (by decide +kernel)).1 (by decide)))) hC rfl (rn_len22 rfl (show Act.eval a' (.tmp 155) = .slice A n c from ((hF 155 (by decide +kernel)).1 (by decide))) )
                    · exact Tl.sm_v 157 _ rfl (Tl.wanted_is rfl rfl (show Act.eval a' (.tmp 150) = .bool false from ((hF 150 (by decide +kernel)).1 (by decide)))) hC rfl (rn_geq3 rfl (show Act.eval a' (.tmp 154) = .int .i64 (q : Int) from ((hF 154 (by decide +kernel)).1 (by decide))) (show Act.eval a' (.tmp 156) = .int .i64 (n : Int) from ((hF 156 (by decide +kernel)).1 (by decide))) f5)
                    · exact Tl.sm_v 158 _ rfl (Tl.wanted_none rfl) hC rfl (rn_pickF rfl (show Act.eval a' (.tmp 150) = .bool false from ((hF 150 (by decide +kernel)).1 (by decide))) (show Act.eval a' (.tmp 157) = .bool false from ((hF 157 (by decide +kernel)).1 (by decide))))
                    · exact Tl.sm_v 159 _ rfl (Tl.wanted_none rfl) hC rfl (rn_move rfl (show Act.eval a' (.tmp 158) = .bool false from ((hF 158 (by decide +kernel)).1 (by decide))))
                    · exact Tl.sm_v 160 _ rfl (Tl.wanted_is rfl rfl (show Act.eval a' (.tmp 159) = .bool false from ((hF 159 (by decide +kernel)).1 (by decide)))) hC rfl (rn_move rfl ((hF 14 (by decide +kernel)).2 (by decide)))
                    · exact Tl.sm_v 161 _ rfl (Tl.wanted_is rfl rfl (show Act.eval a' (.tmp 159) = .bool false from ((hF 159 (by decide +kernel)).1 (by decide)))) hC rfl (rn_gtr3 rfl (show Act.eval a' (.tmp 160) = .int .i64 (p : Int) from ((hF 160 (by decide +kernel)).1 (by decide))) rfl f6)
                    · exact Tl.sm_v 162 _ rfl (Tl.wanted_is rfl rfl (show Act.eval a' (.tmp 159) = .bool false from ((hF 159 (by decide +kernel)).1 (by decide)))) hC rfl (rn_move rfl (show Act.eval a' (.tmp 161) = .bool false from ((hF 161 (by decide +kernel)).1 (by decide))))
                    · exact Tl.sm_skip (Tl.wanted_not rfl rfl (show Act.eval a' (.tmp 162) = .bool false from ((hF 162 (by decide +kernel)).1 (by decide)))) (fun d hd => by cases hd; rfl)
                    · exact Tl.sm_skip (Tl.wanted_not rfl rfl (show Act.eval a' (.tmp 162) = .bool false from ((hF 162 (by decide +kernel)).1 (by decide)))) (fun d hd => by cases hd; rfl)
                    · exact Tl.sm_skip (Tl.wanted_not rfl rfl (show Act.eval a' (.tmp 162) = .bool false from ((hF 162 (by decide +kernel)).1 (by decide)))) (fun d hd => by cases hd; rfl)
                    · exact Tl.sm_skip (Tl.wanted_not rfl rfl (show Act.eval a' (.tmp 162) = .bool false from ((hF 162 (by decide +kernel)).1 (by decide)))) (fun d hd => by cases hd; rfl)
                    · exact Tl.sm_skip (Tl.wanted_not rfl rfl (show Act.eval a' (.tmp 162) = .bool false from ((hF 162 (by decide +kernel)).1 (by decide)))) (fun d hd => by cases hd; rfl)
                    · exact Tl.sm_skip (Tl.wanted_not rfl rfl (show Act.eval a' (.tmp 162) = .bool false from ((hF 162 (by decide +kernel)).1 (by decide)))) (fun d hd => by cases hd; rfl)
                    · exact Tl.sm_skip (Tl.wanted_not rfl rfl (show Act.eval a' (.tmp 162) = .bool false from ((hF 162 (by decide +kernel)).1 (by decide)))) (fun d hd => by cases hd; rfl)
                    · exact Tl.sm_skip (Tl.wanted_not rfl rfl (show Act.eval a' (.tmp 162) = .bool false from ((hF 162 (by decide +kernel)).1 (by decide)))) (fun d hd => by cases hd; rfl)
                    · exact Tl.sm_skip (Tl.wanted_not rfl rfl (show Act.eval a' (.tmp 162) = .bool false from ((hF 162 (by decide +kernel)).1 (by decide)))) (fun d hd => by cases hd; rfl)
                    · exact Tl.sm_skip (Tl.wanted_not rfl rfl (show Act.eval a' (.tmp 162) = .bool false from ((hF 162 (by decide +kernel)).1 (by decide)))) (fun d hd => by cases hd; rfl)
                    · exact Tl.sm_v 173 _ rfl (Tl.wanted_is rfl rfl (show Act.eval a' (.tmp 159) = .bool false from ((hF 159 (by decide +kernel)).1 (by decide)))) hC rfl (rn_pickF rfl (show Act.eval a' (.tmp 162) = .bool false from ((hF 162 (by decide +kernel)).1 (by decide))) rfl)
                    · exact Tl.sm_v 174 _ rfl (Tl.wanted_none rfl) hC rfl (rn_pickF rfl (show Act.eval a' (.tmp 159) = .bool false from ((hF 159 (by decide +kernel)).1 (by decide))) (show Act.eval a' (.tmp 173) = .bool false from ((hF 173 (by decide +kernel)).1 (by decide))))
                    intro v' w9 hC hv
                    have e174 : v' 174 = .bool false := hv 174 (by decide)
                    clear hv
                    have YT9 := own_below YT.out hC (Nat.le_refl _)
                    have YD9 := own_below YD.out hC (Nat.le_refl _)
                    have YK9 := own_below YK.out hC (Nat.le_refl _)
                    have YB9 := YB.out.trans (hC.mono YB.out.size)
                    have YQ9 := Nat.le_trans YQ.out hC.size
                    have kc9 := (hC.cell (p := ⟨gk, p, none⟩) HGK.out).trans kcell
                    obtain ⟨gt, egt, _, _, tcell, tfr, tset⟩ := own_cell YT9 hqn
                    obtain rfl : tb = gt := by cases egt; rfl
                    rw [cntV_get _ hqn] at tcell
                    have hcl : (F0 ++ K.take p).count q ≤ 90600 := by
                      have h1 := List.count_le_length (a := q) (l := F0 ++ K.take p)
                      rw [List.length_append, List.length_take] at h1
                      omega
                    have PT := hid (tset (.int .i64 (((F0 ++ K.take p).count q + 1 : Nat) : Int)))
                    rw [cntV_set _ hqn, List.append_assoc, ← HKT.out] at PT
                    have PD := hid (ownsRow_setCell_below YD9 (a := ⟨tb, q, none⟩) HQ.out.2.1 (.int .i64 (((F0 ++ K.take p).count q + 1 : Nat) : Int)))
                    have PK := hid (ownsRow_setCell_below YK9 (a := ⟨tb, q, none⟩) XWX.out (.int .i64 (((F0 ++ K.take p).count q + 1 : Nat) : Int)))
                    have PB := hid (YB9.setCell (p := ⟨tb, q, none⟩) HQ.out.1 (.int .i64 (((F0 ++ K.take p).count q + 1 : Nat) : Int)))
                    have PQ : Hid (q1 ≤ (w9.setCell ⟨tb, q, none⟩ (.int .i64 (((F0 ++ K.take p).count q + 1 : Nat) : Int))).heap.size) := hid (by simp only [World.setCell, Array.size_modify]; exact YQ9)
                    generalize (F0 ++ K.take p).count q = ct at *
                    have wc : IntKind.i64.wrap ((ct : Int) + 1) = ((ct + 1 : Nat) : Int) := by rw [IntKind.wrap_i64]; omega
                    have wp : IntKind.i64.wrap ((p : Int) + 1) = ((p + 1 : Nat) : Int) := by rw [IntKind.wrap_i64]; omega
                    have g0 : (0 : Int) ≤ (p : Int) := by omega
                    have g1 : (p : Int) < (nk : Int) := by omega
                    have g2 : (0 : Int) ≤ (q : Int) := by omega
                    have g3 : (q : Int) < (n : Int) := by omega
                    clear tset YT9 YD9 YK9 YB9 YQ9 YT YD YK YB YQ egt HKT hC kcell kcz f4 f5 f6 hcl
                    simp only [Tl.fill, List.drop]
                    simp only [Act.put, List.setIfInBounds_toArray, List.set_cons_succ, List.set_cons_zero, e174]
                    generalize v' 145 = z145 at *
                    generalize v' 146 = z146 at *
                    generalize v' 147 = z147 at *
                    generalize v' 148 = z148 at *
                    generalize v' 149 = z149 at *
                    generalize v' 150 = z150 at *
                    generalize v' 151 = z151 at *
                    generalize v' 152 = z152 at *
                    generalize v' 153 = z153 at *
                    generalize v' 154 = z154 at *
                    generalize v' 155 = z155 at *
                    generalize v' 156 = z156 at *
                    generalize v' 157 = z157 at *
                    generalize v' 158 = z158 at *
                    generalize v' 159 = z159 at *
                    generalize v' 160 = z160 at *
                    generalize v' 161 = z161 at *
                    generalize v' 162 = z162 at *
                    generalize v' 163 = z163 at *
                    generalize v' 164 = z164 at *
                    generalize v' 165 = z165 at *
                    generalize v' 166 = z166 at *
                    generalize v' 167 = z167 at *
                    generalize v' 168 = z168 at *
                    generalize v' 169 = z169 at *
                    generalize v' 170 = z170 at *
                    generalize v' 171 = z171 at *
                    generalize v' 172 = z172 at *
                    generalize v' 173 = z173 at *
                    clear e174
                    go_wp2_with fail
                    go_roundw
                    case rel => exact ⟨p + 1, by omega, by rfl, PT, PD, PK, PB, PQ⟩
                    case measure => first | (simp [intOf]; done) | (simp [intOf]; omega)
                  · obtain ⟨y, hyq, ycell⟩ := HPRE.out hp0
                    have f6 : decide ((0 : Int) < (p : Int)) = true := decide_eq_true (by omega)
                    have f7 : decide ((q : Int) ≤ (y : Int)) = false := decide_eq_false (by omega)
                    have wp1 : IntKind.i64.wrap ((p : Int) - 1) = ((p - 1 : Nat) : Int) := by rw [IntKind.wrap_i64]; omega
                    have hpm : p - 1 < nk := by omega
                    have ycz : wy.cell? ⟨gk, 0 + (p - 1), none⟩ = some (.int .i64 (y : Int)) := by rw [Nat.zero_add]; exact ycell
                    clear HPRE hp0
                    go_wp2_with fail
                    refine Tl.wp_mix_lit (by kernel_rfl) 30 [145, 146, 147, 148, 149, 150, 151, 152, 153, 154, 155, 156, 157, 158, 159, 160, 161, 162, 163, 164, 165, 166, 167, 168, 169, 170, 171, 172, 173, 174] 212 rfl (by kernel_rfl) (Below wy.heap.size wy) (wkF1 gk nk kc p q n c y A) ((Below.refl _ _).drew)
                      ⟨fun a' W' hC hF => ?_, fun a' W' hC hF => ?_, fun a' W' hC hF => ?_, fun a' W' hC hF => ?_, fun a' W' hC hF => ?_, fun a' W' hC hF => ?_, fun a' W' hC hF => ?_, fun a' W' hC hF => ?_, fun a' W' hC hF => ?_, fun a' W' hC hF => ?_, fun a' W' hC hF => ?_, fun a' W' hC hF => ?_, fun a' W' hC hF => ?_, fun a' W' hC hF => ?_, fun a' W' hC hF => ?_, fun a' W' hC hF => ?_, fun a' W' hC hF => ?_, fun a' W' hC hF => ?_, fun a' W' hC hF => ?_, fun a' W' hC hF => ?_, fun a' W' hC hF => ?_, fun a' W' hC hF => ?_, fun a' W' hC hF => ?_, fun a' W' hC hF => ?_, fun a' W' hC hF => ?_, fun a' W' hC hF => ?_, fun a' W' hC hF => ?_, fun a' W' hC hF => ?_, fun a' W' hC hF => ?_, fun a' W' hC hF => ?_, trivial⟩ ?_
                    · exact Tl.sm_v 145 _ rfl (Tl.wanted_none rfl) hC rfl (rn_move rfl ((hF 13 (by decide +kernel)).2 (by decide)))
                    · exact Tl.sm_v 146 _ rfl (Tl.wanted_none rfl) hC rfl (rn_move rfl ((hF 14 (by decide +kernel)).2 (by decide)))
                    · exact Tl.sm_v 147 _ rfl (Tl.wanted_none rfl) hC rfl (rn_ix27 rfl (show Act.eval a' (.tmp 145) = .slice (some ⟨gk, 0, none⟩) nk kc from ((hF 145 (by decide +kernel)).1 (by decide))) (show Act.eval a' (.tmp 146) = .int .i64 (p : Int) from ((hF 146 (by decide +kernel)).1 (by decide))) hlt4)
                    · exact Tl.sm_v 148 _ rfl (Tl.wanted_none rfl) hC rfl (rn_load3 rfl (show Act.eval a' (.tmp 147) = .pointer (some ⟨gk, 0 + p, none⟩) from ((hF 147 (by decide +kernel)).1 (by decide))) ((hC.cell (p := ⟨gk, 0 + p, none⟩) HGK.out).trans kcz))
                    · exact Tl.sm_v 149 _ rfl (Tl.wanted_none rfl) hC rfl (rn_lss3 rfl (show Act.eval a' (.tmp 148) = .int .i64 (q : Int) from ((hF 148 (by decide +kernel)).1 (by decide))) rfl f4)
                    · exact Tl.sm_v 150 _ rfl (Tl.wanted_none rfl) hC rfl (rn_move rfl (show Act.eval a' (.tmp 149) = .bool false from ((hF 149 (by decide +kernel)).1 (by decide))))
                    · exact Tl.sm_v 151 _ rfl (Tl.wanted_is rfl rfl (show Act.eval a' (.tmp 150) = .bool false from ((hF 150 (by decide +kernel)).1 (by decide)))) hC rfl (rn_move rfl ((hF 13 (by decide +kernel)).2 (by decide)))
                    · exact Tl.sm_v 152 _ rfl (Tl.wanted_is rfl rfl (show Act.eval a' (.tmp 150) = .bool false from ((hF 150 (by decide +kernel)).1 (by decide)))) hC rfl (rn_move rfl ((hF 14 (by decide +kernel)).2 (by decide)))
                    · exact Tl.sm_v 153 _ rfl (Tl.wanted_is rfl rfl (show Act.eval a' (.tmp 150) = .bool false from ((hF 150 (by decide +kernel)).1 (by decide)))) hC rfl (rn_ix27 rfl (show Act.eval a' (.tmp 151) = .slice (some ⟨gk, 0, none⟩) nk kc from ((hF 151 (by decide +kernel)).1 (by decide))) (show Act.eval a' (.tmp 152) = .int .i64 (p : Int) from ((hF 152 (by decide +kernel)).1 (by decide))) hlt4)
                    · exact Tl.sm_v 154 _ rfl (Tl.wanted_is rfl rfl (show Act.eval a' (.tmp 150) = .bool false from ((hF 150 (by decide +kernel)).1 (by decide)))) hC rfl (rn_load3 rfl (show Act.eval a' (.tmp 153) = .pointer (some ⟨gk, 0 + p, none⟩) from ((hF 153 (by decide +kernel)).1 (by decide))) ((hC.cell (p := ⟨gk, 0 + p, none⟩) HGK.out).trans kcz))
                    · exact Tl.sm_v 155 _ rfl (Tl.wanted_is rfl rfl (show Act.eval a' (.tmp 150) = .bool false from ((hF 150 (by decide +kernel)).1 (by decide)))) hC rfl (rn_move rfl ((hF 0 (by decide +kernel)).2 (by decide)))
                    · exact Tl.sm_v 156 _ rfl (Tl.wanted_is rfl rfl (show Act.eval a' (.tmp 150) = .bool false from ((hF 150 (by decide +kernel)).1 (by decide)))) hC rfl (rn_len22 rfl (show Act.eval a' (.tmp 155) = .slice A n c from ((hF 155 (by decide +kernel)).1 (by decide))) )
                    · exact Tl.sm_v 157 _ rfl (Tl.wanted_is rfl rfl (show Act.eval a' (.tmp 150) = .bool false from ((hF 150 (by decide +kernel)).1 (by decide)))) hC rfl (rn_geq3 rfl (show Act.eval a' (.tmp 154) = .int .i64 (q : Int) from ((hF 154 (by decide +kernel)).1 (by decide))) (show Act.eval a' (.tmp 156) = .int .i64 (n : Int) from ((hF 156 (by decide +kernel)).1 (by decide))) f5)
                    · exact Tl.sm_v 158 _ rfl (Tl.wanted_none rfl) hC rfl (rn_pickF rfl (show Act.eval a' (.tmp 150) = .bool false from ((hF 150 (by decide +kernel)).1 (by decide))) (show Act.eval a' (.tmp 157) = .bool false from ((hF 157 (by decide +kernel)).1 (by decide))))
                    · exact Tl.sm_v 159 _ rfl (Tl.wanted_none rfl) hC rfl (rn_move rfl (show Act.eval a' (.tmp 158) = .bool false from ((hF 158 (by decide +kernel)).1 (by decide))))
                    · exact Tl.sm_v 160 _ rfl (Tl.wanted_is rfl rfl (show Act.eval a' (.tmp 159) = .bool false from ((hF 159 (by decide +kernel)).1 (by decide)))) hC rfl (rn_move rfl ((hF 14 (by decide +kernel)).2 (by decide)))
                    · exact Tl.sm_v 161 _ rfl (Tl.wanted_is rfl rfl (show Act.eval a' (.tmp 159) = .bool false from ((hF 159 (by decide +kernel)).1 (by decide)))) hC rfl (rn_gtr3 rfl (show Act.eval a' (.tmp 160) = .int .i64 (p : Int) from ((hF 160 (by decide +kernel)).1 (by decide))) rfl f6)
                    · exact Tl.sm_v 162 _ rfl (Tl.wanted_is rfl rfl (show Act.eval a' (.tmp 159) = .bool false from ((hF 159 (by decide +kernel)).1 (by decide)))) hC rfl (rn_move rfl (show Act.eval a' (.tmp 161) = .bool true from ((hF 161 (by decide +kernel)).1 (by decide))))
                    · exact Tl.sm_v 163 _ rfl (Tl.wanted_is rfl rfl (show Act.eval a' (.tmp 162) = .bool true from ((hF 162 (by decide +kernel)).1 (by decide)))) hC rfl (rn_move rfl ((hF 13 (by decide +kernel)).2 (by decide)))
                    · exact Tl.sm_v 164 _ rfl (Tl.wanted_is rfl rfl (show Act.eval a' (.tmp 162) = .bool true from ((hF 162 (by decide +kernel)).1 (by decide)))) hC rfl (rn_move rfl ((hF 14 (by decide +kernel)).2 (by decide)))
                    · exact Tl.sm_v 165 _ rfl (Tl.wanted_is rfl rfl (show Act.eval a' (.tmp 162) = .bool true from ((hF 162 (by decide +kernel)).1 (by decide)))) hC rfl (rn_ix27 rfl (show Act.eval a' (.tmp 163) = .slice (some ⟨gk, 0, none⟩) nk kc from ((hF 163 (by decide +kernel)).1 (by decide))) (show Act.eval a' (.tmp 164) = .int .i64 (p : Int) from ((hF 164 (by decide +kernel)).1 (by decide))) hlt4)
                    · exact Tl.sm_v 166 _ rfl (Tl.wanted_is rfl rfl (show Act.eval a' (.tmp 162) = .bool true from ((hF 162 (by decide +kernel)).1 (by decide)))) hC rfl (rn_load3 rfl (show Act.eval a' (.tmp 165) = .pointer (some ⟨gk, 0 + p, none⟩) from ((hF 165 (by decide +kernel)).1 (by decide))) ((hC.cell (p := ⟨gk, 0 + p, none⟩) HGK.out).trans kcz))
                    · exact Tl.sm_v 167 _ rfl (Tl.wanted_is rfl rfl (show Act.eval a' (.tmp 162) = .bool true from ((hF 162 (by decide +kernel)).1 (by decide)))) hC rfl (rn_move rfl ((hF 13 (by decide +kernel)).2 (by decide)))
                    · exact Tl.sm_v 168 _ rfl (Tl.wanted_is rfl rfl (show Act.eval a' (.tmp 162) = .bool true from ((hF 162 (by decide +kernel)).1 (by decide)))) hC rfl (rn_move rfl ((hF 14 (by decide +kernel)).2 (by decide)))
                    · exact Tl.sm_v 169 _ rfl (Tl.wanted_is rfl rfl (show Act.eval a' (.tmp 162) = .bool true from ((hF 162 (by decide +kernel)).1 (by decide)))) hC rfl (rn_sub3 rfl (show Act.eval a' (.tmp 168) = .int .i64 (p : Int) from ((hF 168 (by decide +kernel)).1 (by decide))) rfl wp1)
                    · exact Tl.sm_v 170 _ rfl (Tl.wanted_is rfl rfl (show Act.eval a' (.tmp 162) = .bool true from ((hF 162 (by decide +kernel)).1 (by decide)))) hC rfl (rn_ix27 rfl (show Act.eval a' (.tmp 167) = .slice (some ⟨gk, 0, none⟩) nk kc from ((hF 167 (by decide +kernel)).1 (by decide))) (show Act.eval a' (.tmp 169) = .int .i64 ((p - 1 : Nat) : Int) from ((hF 169 (by decide +kernel)).1 (by decide))) hpm)
                    · exact Tl.sm_v 171 _ rfl (Tl.wanted_is rfl rfl (show Act.eval a' (.tmp 162) = .bool true from ((hF 162 (by decide +kernel)).1 (by decide)))) hC rfl (rn_load3 rfl (show Act.eval a' (.tmp 170) = .pointer (some ⟨gk, 0 + (p - 1), none⟩) from ((hF 170 (by decide +kernel)).1 (by decide))) ((hC.cell (p := ⟨gk, 0 + (p - 1), none⟩) HGK.out).trans ycz))
                    · exact Tl.sm_v 172 _ rfl (Tl.wanted_is rfl rfl (show Act.eval a' (.tmp 162) = .bool true from ((hF 162 (by decide +kernel)).1 (by decide)))) hC rfl (rn_leq3 rfl (show Act.eval a' (.tmp 166) = .int .i64 (q : Int) from ((hF 166 (by decide +kernel)).1 (by decide))) (show Act.eval a' (.tmp 171) = .int .i64 (y : Int) from ((hF 171 (by decide +kernel)).1 (by decide))) f7)
                    · exact Tl.sm_v 173 _ rfl (Tl.wanted_is rfl rfl (show Act.eval a' (.tmp 159) = .bool false from ((hF 159 (by decide +kernel)).1 (by decide)))) hC rfl (rn_pickT rfl (show Act.eval a' (.tmp 162) = .bool true from ((hF 162 (by decide +kernel)).1 (by decide))) (show Act.eval a' (.tmp 172) = .bool false from ((hF 172 (by decide +kernel)).1 (by decide))))
                    · exact Tl.sm_v 174 _ rfl (Tl.wanted_none rfl) hC rfl (rn_pickF rfl (show Act.eval a' (.tmp 159) = .bool false from ((hF 159 (by decide +kernel)).1 (by decide))) (show Act.eval a' (.tmp 173) = .bool false from ((hF 173 (by decide +kernel)).1 (by decide))))
                    intro v' w9 hC hv
                    have e174 : v' 174 = .bool false := hv 174 (by decide)
                    clear hv
                    have YT9 := own_below YT.out hC (Nat.le_refl _)
                    have YD9 := own_below YD.out hC (Nat.le_refl _)
                    have YK9 := own_below YK.out hC (Nat.le_refl _)
                    have YB9 := YB.out.trans (hC.mono YB.out.size)
                    have YQ9 := Nat.le_trans YQ.out hC.size
                    have kc9 := (hC.cell (p := ⟨gk, p, none⟩) HGK.out).trans kcell
                    obtain ⟨gt, egt, _, _, tcell, tfr, tset⟩ := own_cell YT9 hqn
                    obtain rfl : tb = gt := by cases egt; rfl
                    rw [cntV_get _ hqn] at tcell
                    have hcl : (F0 ++ K.take p).count q ≤ 90600 := by
                      have h1 := List.count_le_length (a := q) (l := F0 ++ K.take p)
                      rw [List.length_append, List.length_take] at h1
                      omega
                    have PT := hid (tset (.int .i64 (((F0 ++ K.take p).count q + 1 : Nat) : Int)))
                    rw [cntV_set _ hqn, List.append_assoc, ← HKT.out] at PT
                    have PD := hid (ownsRow_setCell_below YD9 (a := ⟨tb, q, none⟩) HQ.out.2.1 (.int .i64 (((F0 ++ K.take p).count q + 1 : Nat) : Int)))
                    have PK := hid (ownsRow_setCell_below YK9 (a := ⟨tb, q, none⟩) XWX.out (.int .i64 (((F0 ++ K.take p).count q + 1 : Nat) : Int)))
                    have PB := hid (YB9.setCell (p := ⟨tb, q, none⟩) HQ.out.1 (.int .i64 (((F0 ++ K.take p).count q + 1 : Nat) : Int)))
                    have PQ : Hid (q1 ≤ (w9.setCell ⟨tb, q, none⟩ (.int .i64 (((F0 ++ K.take p).count q + 1 : Nat) : Int))).heap.size) := hid (by simp only [World.setCell, Array.size_modify]; exact YQ9)
                    generalize (F0 ++ K.take p).count q = ct at *
                    have wc : IntKind.i64.wrap ((ct : Int) + 1) = ((ct + 1 : Nat) : Int) := by rw [IntKind.wrap_i64]; omega
                    have wp : IntKind.i64.wrap ((p : Int) + 1) = ((p + 1 : Nat) : Int) := by rw [IntKind.wrap_i64]; omega
                    have g0 : (0 : Int) ≤ (p : Int) := by omega
                    have g1 : (p : Int) < (nk : Int) := by omega
                    have g2 : (0 : Int) ≤ (q : Int) := by omega
                    have g3 : (q : Int) < (n : Int) := by omega
                    clear tset YT9 YD9 YK9 YB9 YQ9 YT YD YK YB YQ egt HKT hC kcell kcz f4 f5 f6 f7 wp1 ycz ycell hpm hcl
                    simp only [Tl.fill, List.drop]
                    simp only [Act.put, List.setIfInBounds_toArray, List.set_cons_succ, List.set_cons_zero, e174]
                    generalize v' 145 = z145 at *
                    generalize v' 146 = z146 at *
                    generalize v' 147 = z147 at *
                    generalize v' 148 = z148 at *
                    generalize v' 149 = z149 at *
                    generalize v' 150 = z150 at *
                    generalize v' 151 = z151 at *
                    generalize v' 152 = z152 at *
                    generalize v' 153 = z153 at *
                    generalize v' 154 = z154 at *
                    generalize v' 155 = z155 at *
                    generalize v' 156 = z156 at *
                    generalize v' 157 = z157 at *
                    generalize v' 158 = z158 at *
                    generalize v' 159 = z159 at *
                    generalize v' 160 = z160 at *
                    generalize v' 161 = z161 at *
                    generalize v' 162 = z162 at *
                    generalize v' 163 = z163 at *
                    generalize v' 164 = z164 at *
                    generalize v' 165 = z165 at *
                    generalize v' 166 = z166 at *
                    generalize v' 167 = z167 at *
                    generalize v' 168 = z168 at *
                    generalize v' 169 = z169 at *
                    generalize v' 170 = z170 at *
                    generalize v' 171 = z171 at *
                    generalize v' 172 = z172 at *
                    generalize v' 173 = z173 at *
                    clear e174
                    go_wp2_with fail
                    go_roundw
                    case rel => exact ⟨p + 1, by omega, by rfl, PT, PD, PK, PB, PQ⟩
                    case measure => first | (simp [intOf]; done) | (simp [intOf]; omega)
                · obtain rfl : nk = p := by omega
                  have g1 : ¬ ((nk : Int) < (nk : Int)) := by omega
                  have YT2 : Hid (wy.ownsRow tb 3 1 (.slice (some ⟨tb, 0, none⟩) n n) n (cntV ((DS.take (j + 1)).flatMap (kidsF l)) n)) := hid (by
                    have := YT.out
                    rw [HNK.out, List.take_length] at this
                    rw [HF2.out]; exact this)
                  clear YT YK
                  go_wp2_with fail
                  go_roundw
                  case rel => exact ⟨j + 1, by omega, by rfl, YT2, YD, YB, YQ⟩
                  case measure => first | (simp [intOf]; done) | (simp [intOf]; omega)
            · obtain rfl : dn = j := by omega
              have g1 : ¬ ((dn : Int) < (dn : Int)) := by omega
              have ZT : Hid (wx.ownsRow tb 3 1 (.slice (some ⟨tb, 0, none⟩) n n) n (cntV (DS.flatMap (kidsF l)) n)) := hid (by
                have := XT.out
                rwa [HDN'.out, List.take_length] at this)
              clear XT XD XQ HTM HD' HBW HQS
              go_wp2_with fail
              go_loopw [15] (fun v15 wz => ∃ p : Nat, p ≤ n ∧ v15 = .int .i64 (p : Int) ∧ wz = wx) (fun v15 _ => n - (intOf v15).toNat)
              case atStart => exact ⟨0, Nat.zero_le _, rfl, rfl⟩
              case round =>
                obtain ⟨p, hp, rfl, rfl⟩ := hrel
                generalize wr = wy at *
                by_cases hlt5 : p < n
                · obtain ⟨gt, egt, _, _, tcell, _, _⟩ := own_cell ZT.out hlt5
                  obtain rfl : tb = gt := by cases egt; rfl
                  rw [cntV_get _ hlt5, HALL.out p hlt5] at tcell
                  have tc1 : wy.cell? ⟨tb, p, none⟩ = some (.int .i64 1) := tcell
                  have f0 : (0 : Int) ≤ (p : Int) := by omega
                  have f1 : (p : Int) < (n : Int) := by omega
                  have wp : IntKind.i64.wrap ((p : Int) + 1) = ((p + 1 : Nat) : Int) := by rw [IntKind.wrap_i64]; omega
                  clear tcell egt
                  go_wp2_with fail
                  go_roundw
                  case rel => exact ⟨p + 1, by omega, by rfl, trivial⟩
                  case measure => first | (simp [intOf]; done) | (simp [intOf]; omega)
                · obtain rfl : n = p := by omega
                  have f1 : ¬ ((n : Int) < (n : Int)) := by omega
                  have CSZ := size_any l A c SL.out wy (HL.out.below XB.out)
                  rw [← HN.out] at CSZ
                  generalize sizeF l = sz at *
                  have f2 : ((sz : Int) == (sz : Int)) = true := by simp
                  go_wp2_with fail
                  refine CSZ.mono ?_
                  rintro e wb ⟨rfl, bb⟩
                  have XB2 := hid (XB.out.trans (bb.mono XB.out.size))
                  clear bb CSZ
                  by_cases hn0 : n = 0
                  · have f3 : ((n : Int) == 0) = true := by simp; omega
                    have f4 : (n : Int) = 0 := by omega
                    go_wp2_with fail
                    go_ret
                    exact ⟨rfl, XB2.out⟩
                  · have f3 : ((n : Int) == 0) = false := by simp; omega
                    obtain ⟨g, o, rfl, _, _, _, _⟩ := HL.out 0 (by rw [← HN.out]; omega)
                    have CT := tree_any (l.take (n - 1)) (some ⟨g, o, none⟩) c (small_take SL.out _) wb (fs_take (HL.out.below XB2.out) _)
                    rw [HINI.out, List.length_take, ← HN.out, Nat.min_eq_left (by omega)] at CT
                    have wn1 : IntKind.i64.wrap ((n : Int) - 1) = ((n - 1 : Nat) : Int) := by rw [IntKind.wrap_i64]; omega
                    have f4 : (0 : Int) ≤ ((n - 1 : Nat) : Int) := by omega
                    have hcc := HCAP.out
                    rw [← HN.out] at hcc
                    have f5 : ((n - 1 : Nat) : Int) ≤ (c : Int) := by omega
                    have f6 : (((n - 1 : Nat) : Int)).toNat = n - 1 := by omega
                    clear hcc
                    go_wp2_with fail
                    refine CT.mono ?_
                    rintro e wd ⟨rfl, bd⟩
                    have XB3 := hid (XB2.out.trans (bd.mono XB2.out.size))
                    clear bd CT
                    go_wp2_with fail
                    go_ret
                    exact ⟨rfl, XB3.out⟩
end Go.Proofs.YtnhekngmgjnodaaDoor
