/- Quorum: what all stores have is gathered. -/
import Derived.Test.YtmpgfpmkmgebdaaGreatDoorP5
namespace Go.Proofs.YtmpgfpmkmgebdaaGreatDoor
open Go.RowKit Go.Maps
open W
set_option linter.unusedVariables false
/-- a store's slots, the first k of them got: what there is, and the world -/
def gS (n : Int) (V : Wd) (i : Nat) : Nat → Hd × Wd
  | 0 => (⟨true, noR, noR⟩, V)
  | k + 1 => (setR { (gS n V i k).1 with ans := (gS n V i k).1.ans && okE (getW (gS n V i k).2 (i : Int) (mn k)).2 } k (lookd n (getW (gS n V i k).2 (i : Int) (mn k)).1), askW (gS n V i k).2 (i : Int))
theorem gS_two (n : Int) (V : Wd) (i : Nat) : gS n V i 2 = (⟨okE (getW V (i : Int) m0).2 && okE (getW (askW V (i : Int)) (i : Int) m1).2, lookd n (getW V (i : Int) m0).1, lookd n (getW (askW V (i : Int)) (i : Int) m1).1⟩, askW (askW V (i : Int)) (i : Int)) := by
  simp [gS, setR, mn]
theorem askW_l (V : Wd) (i : Int) : (askW V i).l = V.l := (askW_small V i).2.2
theorem gS_ok {M n : Nat} {V : Wd} (h : Ok M n V) (m : Int) (i : Nat) : ∀ k, Ok (M + k) n (gS m V i k).2
  | 0 => h
  | k + 1 => (gS_ok h m i k).get (i : Int)
theorem gath_go (n : Int) (V : Wd) (i k : Nat) (acc : List Hd) (h : ∀ j, j < 2 → (getW (gS n V i j).2 (i : Int) (mn j)).2 ≠ 56) : gath n (k + 1) i V acc = gath n k (i + 1) (gS n V i 2).2 (acc ++ [(gS n V i 2).1]) := by
  have h0 : (getW V (i : Int) m0).2 ≠ 56 := h 0 (by omega)
  have h1 : (getW (askW V (i : Int)) (i : Int) m1).2 ≠ 56 := h 1 (by omega)
  rw [gath, if_neg h0, if_neg h1, gS_two]
theorem gath_cut (n : Int) (V : Wd) (i k : Nat) (acc : List Hd) {j : Nat} (hj : j < 2) (h : ∀ m, m < j → (getW (gS n V i m).2 (i : Int) (mn m)).2 ≠ 56) (hc : (getW (gS n V i j).2 (i : Int) (mn j)).2 = 56) : gath n (k + 1) i V acc = (56, askW (gS n V i j).2 (i : Int), []) := by
  rcases (by omega : j = 0 ∨ j = 1) with rfl | rfl
  · rw [gath, if_pos (show (getW V (i : Int) m0).2 = 56 from hc)]
    rfl
  · rw [gath, if_neg (show (getW V (i : Int) m0).2 ≠ 56 from h 0 (by omega)), if_pos (show (getW (askW V (i : Int)) (i : Int) m1).2 = 56 from hc)]
    rfl
variable {w0 w w' : World} {b : Nat} {V V' : Wd} {T : Nat → Prop}
/-- what the slots of the last part hold -/
def rgF (b g k j n : Nat) (d : ByteArray) (i : Nat) (v : Value) (_ : World) : Prop := match i with
  | 55 => v = .pointer (some ⟨g, k * 13, none⟩) | 56 => v = .int .i64 (j : Int) | 57 => v = .string d | 58 => v = .pointer (some ⟨b, 0, none⟩)
  | 59 => v = .int .i64 (n : Int) | 60 => v = .agg (rV (lookd n d)).toArray | 61 => v = .pointer (some ⟨g, k * 13, none⟩)
  | 62 => v = .pointer (some ⟨g, k * 13 + 1, none⟩) | 63 => v = .pointer (some ⟨g, k * 13 + 1 + j * 6, none⟩)
  | _ => True
section
variable {ev : Operand → Value} {o : Oper} {w : World} {x y : Operand}
theorem rn_f108 {g k : Nat} (ho : o.op = .fieldAddr 108 x 1) (hx : ev x = .pointer (some ⟨g, k, none⟩)) : (execOp ev o).run Tryz.prog w = .ok (.value (.pointer (some ⟨g, k + 1, none⟩))) w := by
  simp [execOp, ho, hx, go_sem]
theorem rn_ix106 {g k j : Nat} (ho : o.op = .indexAddr 106 x y) (hx : ev x = .pointer (some ⟨g, k, none⟩)) (hy : ev y = .int .i64 (j : Int)) (hj : j ≤ 1) : (execOp ev o).run Tryz.prog w = .ok (.value (.pointer (some ⟨g, k + j * 6, none⟩))) w := by
  rcases (by omega : j = 0 ∨ j = 1) with rfl | rfl <;> simp [execOp, ho, hx, hy, go_sem]
end
theorem ens41 (args : Array Value) (w : World) : (callFunc 42 args).run Tryz.prog w = .ok (.enter 42 args) w := by kernel_rfl
theorem ens51 (args : Array Value) (w : World) : (callFunc 51 args).run Tryz.prog w = .ok (.enter 51 args) w := by kernel_rfl
/-- the list beside the world is written -/
theorem WT.list (h : WT w0 w b V T) {g : Nat} (hg : T g) (hn : w0.heap.size ≤ g) (ho : Only (fun i => i = g) w w') : WT w0 w' b V T := by
  obtain ⟨S, g', h1, h2, h3, h4⟩ := h
  exact ⟨S, g', h1.only ho (fun i hi e => (h4 g hg).1 (e ▸ hi)), h2, h3.trans (ho.below h3.size fun i hi => by rw [hi]; exact hn), fun i hi => ⟨(h4 i hi).1, Nat.lt_of_lt_of_le (h4 i hi).2 ho.size⟩⟩
set_option maxHeartbeats 8000000 in
set_option maxRecDepth 20000 in
theorem gather_any (h : WT w0 w b V T) (hl : F.Lay w0) {M n : Nat} (hok : Ok M n V) (hn : n ≤ 12) (hM : M ≤ 900000) (Q : Ending → World → Prop)
    (hqC : (gathW V).1 = 56 → ∀ w', WT w0 w' b (gathW V).2.1 T → Kpt T w w' → Q (.returned (.tuple #[.slice none 0 0, .int .i64 56])) w')
    (hqO : (gathW V).1 = 0 → (gathW V).2.2.length = n → ∀ w' g, WT w0 w' b (gathW V).2.1 (fun i => T i ∨ i = g) → Kpt T w w' → AllAt w' g (gathW V).2.2 → w.heap.size ≤ g → Q (.returned (.tuple #[.slice (some ⟨g, 0, none⟩) n n, .int .i64 0])) w') : Calls Tryz.prog 25 #[ptr b] w Q := by
  have HQC := hid hqC
  have HQO := hid hqO
  have HL := hid hl
  have HOK := hid hok
  have HH := hid h
  have HGW : Hid (gathW V = gath n n 0 V []) := hid (by unfold gathW; rw [hok.len])
  have HN := h.n
  rw [hok.len] at HN
  obtain ⟨cs, hmk, hrow⟩ := makes_all n (by omega) w
  obtain ⟨g, hg⟩ : ∃ g, g = w.heap.size := ⟨_, rfl⟩
  obtain ⟨wa, hwa⟩ : ∃ wa, wa = w.alloc (.cells cs 108) := ⟨_, rfl⟩
  have hB : Below w.heap.size w wa := by rw [hwa]; exact boxed _ _
  have HA : Hid (AllAt wa g (List.replicate n zH)) := hid ⟨cs, by rw [hwa, hg]; exact Has.new _ _ _ _ rfl, hrow⟩
  have HWT : Hid (WT w0 wa b V (fun i => T i ∨ i = g)) := hid ((h.new hB).sub fun i hi => by
    rcases hi with hi | hi
    · exact .inl hi
    · exact .inr (by rw [hi, hg]; exact ⟨Nat.le_refl _, by rw [hwa]; simp⟩))
  have HK : Hid (Kpt T w wa) := hid (Kpt.below h hB)
  have HG := hid hg
  have HGT : Hid (∀ i, T i → i ≠ g) := hid fun i hi e => by have := h.lt i hi; omega
  have HG0 : Hid (w0.heap.size ≤ g) := hid (by rw [hg]; exact h.base.size)
  clear hrow h hl hok hqC hqO hB
  unfold ptr at HN ⊢
  go_enter Tryz.func25, Tryz.ntmps25
  go_wp2_with fail
  refine HN.mono ?_
  rintro e w1 ⟨rfl, hw1⟩
  rw [hw1]
  clear HN hw1
  go_wp2_with fail
  rw [← hwa, ← hg]
  clear hmk hwa hg
  have hnl : List.replicate n zH = [] ++ List.replicate n zH := rfl
  go_loopg [5, 6, 7, 8, 9, 17, 26] n (fun gk s5 s6 s7 s8 s9 s17 s26 wx => ∃ (k : Nat) (V1 : Wd) (acc : List Hd), k + gk = n ∧ s17 = .int .i64 (k : Int) ∧ Hid (WT w0 wx b V1 (fun i => T i ∨ i = g) ∧ AllAt wx g (acc ++ List.replicate gk zH) ∧ Kpt T w wx ∧ acc.length = k ∧ Ok (M + 2 * k) n V1 ∧ gath n gk k V1 acc = gathW V))
  case atStart => exact ⟨0, V, [], by omega, rfl, hid ⟨HWT.out, by rw [← hnl]; exact HA.out, HK.out, rfl, HOK.out, HGW.out.symm⟩⟩
  case round =>
    clear hnl HWT HA HK
    obtain ⟨k, V1, acc, hk, rfl, HJ⟩ := hrel
    obtain ⟨j1, j2, j3, j4, j5, j6⟩ := HJ.out
    cases gk with
    | zero =>
      have q1 : ¬ ((k : Int) < (n : Int)) := by omega
      have HE : Hid (Q (.returned (.tuple #[.slice (some ⟨g, 0, none⟩) n n, .int .i64 0])) wr) := hid (by
        have := HQO.out
        rw [← j6] at this
        refine this rfl (by show acc.length = n; omega) wr g j1 j3 (by simpa [gath] using j2) (by rw [HG.out]; exact Nat.le_refl _))
      clear j1 j2 j3 j4 j5 j6
      go_wp2_with fail
      exact HE.out
    | succ g1 =>
      have q1 : (k : Int) < (n : Int) := by omega
      have wk : IntKind.i64.wrap ((k : Int) + 1) = ((k + 1 : Nat) : Int) := wrapN (b := 1) (by omega)
      have hkk : (acc ++ List.replicate (g1 + 1) zH)[k]? = some zH := by
        rw [List.getElem?_append_right (by omega), j4, Nat.sub_self]
        rfl
      obtain ⟨L0, hL0⟩ : ∃ L0, L0 = acc ++ List.replicate (g1 + 1) zH := ⟨_, rfl⟩
      rw [← hL0] at j2 hkk
      have c0 := (j2.hd hkk).cells.1
      have c1 := j2.frozen (k * 13)
      obtain ⟨w2, hw2⟩ : ∃ w2, w2 = wr.setCell ⟨g, k * 13, none⟩ (.bool true) := ⟨_, rfl⟩
      have ho2 : Only (fun i => i = g) wr w2 := by rw [hw2]; exact Only.set (p := ⟨g, k * 13, none⟩) (Only.refl (fun i => i = g) wr) (.inl rfl) _
      have HW2 := hid (j1.list (.inr rfl) HG0.out ho2)
      have HA2 : Hid (AllAt w2 g (L0.set k (gS n V1 k 0).1)) := hid (by rw [hw2]; exact j2.ans hkk true)
      have HK2 : Hid (Kpt T w w2) := hid (j3.trans ⟨ho2.size, fun i hi => ho2.block i (j1.lt i (.inl hi)) (HGT.out i hi)⟩)
      have HL0 := hid hL0
      have HKL : Hid (k < L0.length) := hid (List.getElem?_eq_some_iff.1 hkk).1
      have HJ4 := hid j4
      have HJ5 := hid j5
      have HJ6 := hid j6
      clear j1 j2 j3 j4 j5 j6 hkk ho2 hL0
      go_wp2_with fail
      rw [← hw2]
      clear hw2 c0 c1
      go_loopg [7, 8, 9, 26] 2 (fun gi s7 s8 s9 s26 wy => ∃ (j : Nat), j + gi = 2 ∧ s26 = .int .i64 (j : Int) ∧ Hid (WT w0 wy b (gS n V1 k j).2 (fun i => T i ∨ i = g) ∧ AllAt wy g (L0.set k (gS n V1 k j).1) ∧ Kpt T w wy ∧ ∀ i, i < j → (getW (gS n V1 k i).2 (k : Int) (mn i)).2 ≠ 56))
      case atStart => exact ⟨0, by omega, rfl, hid ⟨HW2.out, HA2.out, HK2.out, fun i hi => by omega⟩⟩
      case round =>
        clear HW2 HA2 HK2
        obtain ⟨j, hj, rfl, HI⟩ := hrel
        cases gk with
        | zero =>
          obtain rfl : j = 2 := by omega
          obtain ⟨i1, i2, i3, i4⟩ := HI.out
          have HI1 := hid i1
          have HI2 := hid i2
          have HI3 := hid i3
          have HI4 : Hid (gath n g1 (k + 1) (gS n V1 k 2).2 (acc ++ [(gS n V1 k 2).1]) = gathW V) := hid (by rw [← gath_go n V1 k g1 acc i4]; exact HJ6.out)
          have HI5 : Hid (L0.set k (gS n V1 k 2).1 = (acc ++ [(gS n V1 k 2).1]) ++ List.replicate g1 zH) := hid (by
            rw [HL0.out, List.set_append_right _ _ (by rw [HJ4.out]; exact Nat.le_refl _), HJ4.out, Nat.sub_self]
            simp [List.replicate_succ])
          clear i1 i2 i3 i4
          go_wp2_with fail
          go_roundg g1
          case measure => omega
          case rel => exact ⟨k + 1, (gS n V1 k 2).2, acc ++ [(gS n V1 k 2).1], by omega, by first | rfl | simp, hid ⟨HI1.out, by rw [← HI5.out]; exact HI2.out, HI3.out, by rw [List.length_append, HJ4.out]; rfl, by have := gS_ok HJ5.out (n : Int) k 2; rw [show M + 2 * k + 2 = M + 2 * (k + 1) by omega] at this; exact this, HI4.out⟩⟩
        | succ g2 =>
          have q2 : (j : Int) < 2 := by omega
          have wj : IntKind.i64.wrap ((j : Int) + 1) = ((j + 1 : Nat) : Int) := wrapN (b := 1) (by omega)
          obtain ⟨i1, i2, i3, i4⟩ := HI.out
          obtain ⟨Vj, hVj⟩ : ∃ Vj, Vj = (gS n V1 k j).2 := ⟨_, rfl⟩
          obtain ⟨hj0, hhj⟩ : ∃ x, x = (gS n V1 k j).1 := ⟨_, rfl⟩
          have HS1 : Hid ((gS n V1 k (j + 1)).2 = askW Vj (k : Int)) := hid (by rw [hVj]; rfl)
          have HS0 : Hid ((gS n V1 k (j + 1)).1 = setR { hj0 with ans := hj0.ans && okE (getW Vj (k : Int) (mn j)).2 } j (lookd n (getW Vj (k : Int) (mn j)).1)) := hid (by rw [hVj, hhj]; rfl)
          have hokj := gS_ok HJ5.out (n : Int) k j
          rw [← hVj] at i1 hokj
          rw [← hhj] at i2
          have HNM := name_any j (by omega) wr (i1.lay HL.out)
          have HI3 := hid i3
          have HI4 : Hid ((∀ i, i < j → (getW (gS n V1 k i).2 (k : Int) (mn i)).2 ≠ 56)) := hid i4
          have HI1 := hid i1
          have HI2 := hid i2
          have HOJ := hid hokj
          have HVJ := hid hVj
          clear i1 i2 i3 i4 hokj hVj hhj HI
          go_wp2_with fail
          refine HNM.mono ?_
          rintro e w3 ⟨rfl, hb3⟩
          clear HNM
          have HK3 := hid (HI3.out.trans ((Kpt.below HI1.out hb3).sub fun i hi => .inl hi))
          have HA3 := hid (HI2.out.below hb3)
          have hW3 := HI1.out.below hb3
          have HG3 := hW3.get (by have := HOJ.out.calls; omega) HOJ.out.left (k : Int) (mn j) (by unfold mn; split <;> decide)
          clear hb3 hW3 HI1 HI2 HI3
          unfold ptr at HG3
          go_wp2_with fail
          refine HG3.mono ?_
          rintro e w4 ⟨rfl, hw4, hk4⟩
          clear HG3
          obtain ⟨dt, hdt⟩ : ∃ dt, dt = (getW Vj (k : Int) (mn j)).1 := ⟨_, rfl⟩
          obtain ⟨ee, hee⟩ : ∃ ee, ee = (getW Vj (k : Int) (mn j)).2 := ⟨_, rfl⟩
          rw [← hdt, ← hee] at HS0 ⊢
          have HEE := hid hee
          have HK4 := hid (HK3.out.trans (hk4.sub fun i hi => .inl hi))
          have HA4 := hid (HA3.out.kpt hk4 (.inr rfl))
          have HW4 := hid hw4
          clear hw4 hk4 HK3 HA3 hdt hee
          unfold er
          by_cases he : ee = 56
          · have HE : Hid (Q (.returned (.tuple #[.slice none 0 0, .int .i64 56])) w4) := hid (by
              have hc := gath_cut n V1 k g1 acc (j := j) (by omega) HI4.out (by rw [← HVJ.out, ← HEE.out]; exact he)
              rw [HJ6.out] at hc
              have := HQC.out
              rw [hc] at this
              exact this rfl w4 (by rw [← HVJ.out]; exact HW4.out.sub fun i hi => .inl hi) HK4.out)
            subst he
            go_wp2_with fail
            exact HE.out
          · have q3 : (ee == 56) = false := by simpa using he
            have HNE : Hid ((getW Vj (k : Int) (mn j)).2 ≠ 56) := hid (by rw [← HEE.out]; exact he)
            have hkk : (L0.set k hj0)[k]? = some hj0 := by rw [List.getElem?_set_self HKL.out]
            obtain ⟨ha, h0, h1⟩ := hj0
            have hA4 := HA4.out
            have c0 := (hA4.hd hkk).cells.1
            have c1 := hA4.frozen (k * 13)
            obtain ⟨w5, hw5⟩ : ∃ w5, w5 = w4.setCell ⟨g, k * 13, none⟩ (.bool (ha && okE ee)) := ⟨_, rfl⟩
            have ho5 : Only (fun i => i = g) w4 w5 := by rw [hw5]; exact Only.set (p := ⟨g, k * 13, none⟩) (Only.refl (fun i => i = g) w4) (.inl rfl) _
            have HW5 := hid (HW4.out.list (.inr rfl) HG0.out ho5)
            have HA5 : Hid (AllAt w5 g (L0.set k ⟨ha && okE ee, h0, h1⟩)) := hid (by
              have := hA4.ans hkk (ha && okE ee)
              rw [List.set_set] at this
              rw [hw5]
              exact this)
            have HK5 : Hid (Kpt T w w5) := hid (HK4.out.trans ⟨ho5.size, fun i hi => ho5.block i (HW4.out.lt i (.inl hi)) (HGT.out i hi)⟩)
            clear hA4 hkk ho5 he HEE HW4 HA4 HK4
            cases ha with
            | false =>
              simp only [Bool.false_and] at hw5 HA5 HS0
              go_wp2_with fail
              rw [← hw5]
              clear hw5
              have HN5 := HW5.out.n
              rw [show (askW Vj (k : Int)).l.length = n by rw [askW_l]; exact HOJ.out.len] at HN5
              unfold ptr at HN5
              have HNA : Hid (∀ W', BelW w5 W' → Calls Tryz.prog 42 #[.pointer (some ⟨b, 0, none⟩)] W' fun e w' => e = .returned (.int .i64 (n : Int)) ∧ w' = W') := hid fun W' hW => by
                have := (HW5.out.below hW).n
                rw [show (askW Vj (k : Int)).l.length = n by rw [askW_l]; exact HOJ.out.len] at this
                exact this
              clear HN5
              refine Tl.wp_mix_lit (by kernel_rfl) 9 [55, 56, 57, 58, 59, 60, 61, 62, 63] 67 rfl (by kernel_rfl) (BelW w5) (rgF b g k j n dt) ((Below.refl _ _).drew)
                ⟨fun a' W' hC hF => ?_, fun a' W' hC hF => ?_, fun a' W' hC hF => ?_, fun a' W' hC hF => ?_, fun a' W' hC hF => ?_, fun a' W' hC hF => ?_, fun a' W' hC hF => ?_, fun a' W' hC hF => ?_, fun a' W' hC hF => ?_, trivial⟩ ?_
              · exact Tl.sm_v 55 _ rfl (Tl.wanted_none rfl) hC rfl (rn_move rfl ((hF 6 (by decide +kernel)).2 (by decide)))
              · exact Tl.sm_v 56 _ rfl (Tl.wanted_none rfl) hC rfl (rn_move rfl ((hF 7 (by decide +kernel)).2 (by decide)))
              · exact Tl.sm_v 57 _ rfl (Tl.wanted_none rfl) hC rfl (rn_move rfl ((hF 8 (by decide +kernel)).2 (by decide)))
              · exact Tl.sm_v 58 _ rfl (Tl.wanted_none rfl) hC rfl (rn_move rfl ((hF 0 (by decide +kernel)).2 (by decide)))
              · refine Tl.sm_call 42 #[_] (Tl.wanted_none rfl) (rn_call1 rfl rfl ((hF 58 (by decide +kernel)).1 (by decide)) (ens41 _ _)) ((HNA.out W' hC).mono ?_)
                rintro e w'' ⟨rfl, rfl⟩
                exact ⟨_, rfl, hC, fun d v _ h => h, fun d hd => by cases hd; rfl⟩
              · refine Tl.sm_call 51 #[_, _] (Tl.wanted_none rfl) (rn_call2 rfl rfl ((hF 57 (by decide +kernel)).1 (by decide)) ((hF 59 (by decide +kernel)).1 (by decide)) (ens51 _ _)) ((looked_any dt (n : Int) W' ((HW5.out.below hC).lay HL.out)).mono ?_)
                rintro e w'' ⟨rfl, hb⟩
                exact ⟨_, rfl, Below.trans hC (hb.mono (Below.size hC)), fun d v _ h => h, fun d hd => by cases hd; rfl⟩
              · exact Tl.sm_v 61 _ rfl (Tl.wanted_none rfl) hC rfl (rn_nilCheck rfl ((hF 55 (by decide +kernel)).1 (by decide)))
              · exact Tl.sm_v 62 _ rfl (Tl.wanted_none rfl) hC rfl (rn_f108 rfl ((hF 61 (by decide +kernel)).1 (by decide)))
              · exact Tl.sm_v 63 _ rfl (Tl.wanted_none rfl) hC rfl (rn_ix106 rfl ((hF 62 (by decide +kernel)).1 (by decide)) ((hF 56 (by decide +kernel)).1 (by decide)) (by omega))
              intro v w6 hw6 hv
              have v60 : v 60 = .agg (rV (lookd n dt)).toArray := hv 60 (by decide)
              have v63 : v 63 = .pointer (some ⟨g, k * 13 + 1 + j * 6, none⟩) := hv 63 (by decide)
              have hB6 : Below w5.heap.size w5 w6 := hw6
              clear hv hw6
              simp only [Tl.fill, List.drop_succ_cons, List.drop_zero, wpList]
              simp only [Act.put, List.setIfInBounds_toArray, List.set_cons_succ, List.set_cons_zero, v60, v63]
              clear v60 v63
              obtain ⟨rd, hrd⟩ : ∃ rd, rd = lookd n dt := ⟨_, rfl⟩
              rw [← hrd] at HS0 ⊢
              have hA6 := HA5.out.below hB6
              obtain ⟨w7, hw7⟩ : ∃ w7, w7 = set6 w6 g (k * 13 + 1 + j * 6) rd := ⟨_, rfl⟩
              have ho7 := set6_only w6 g (k * 13 + 1 + j * 6) rd
              rw [← hw7] at ho7
              have HW7 := hid ((HW5.out.below hB6).list (.inr rfl) HG0.out ho7)
              have HA7 : Hid (AllAt w7 g (L0.set k (gS n V1 k (j + 1)).1)) := hid (by
                have := hA6.slot (j := k) (h := ⟨false, h0, h1⟩) (by rw [List.getElem?_set_self HKL.out]) (i := j) (by omega) rd
                rw [List.set_set] at this
                rw [hw7, HS0.out]
                exact this)
              have HK7 : Hid (Kpt T w w7) := hid ((HK5.out.trans ((Kpt.below HW5.out hB6).sub fun i hi => .inl hi)).trans ⟨ho7.size, fun i hi => ho7.block i ((HW5.out.below hB6).lt i (.inl hi)) (HGT.out i hi)⟩)
              have HI7 : Hid (∀ i, i < j + 1 → (getW (gS n V1 k i).2 (k : Int) (mn i)).2 ≠ 56) := hid fun i hi => by
                by_cases hij : i = j
                · subst hij
                  rw [← HVJ.out]
                  exact HNE.out
                · exact HI4.out i (by omega)
              rw [if_pos (Tl.wanted_none rfl)]
              left
              apply wp_store6 (x := .tmp 63) (y := .tmp 60) (i := k * 13 + 1 + j * 6) (r := rd) _ _ _ _ hA6 (by rw [List.length_set]; have := HKL.out; omega)
              rotate_left
              · rfl
              · rfl
              · rfl
              · rfl
              rw [← hw7]
              clear hA6 hB6 ho7 HW5 HA5 HK5 hrd hw7
              go_wp2_with fail
              go_roundg g2
              case measure => omega
              case rel => exact ⟨j + 1, by omega, by first | rfl | simp, hid ⟨by rw [HS1.out]; exact HW7.out, HA7.out, HK7.out, HI7.out⟩⟩
            | true =>
              simp only [Bool.true_and] at hw5 HA5 HS0
              by_cases e0 : ee = 0
              · subst e0
                rw [show okE 0 = true from rfl] at hw5 HA5 HS0
                go_wp2_with fail
                rw [← hw5]
                clear hw5
                have HN5 := HW5.out.n
                rw [show (askW Vj (k : Int)).l.length = n by rw [askW_l]; exact HOJ.out.len] at HN5
                unfold ptr at HN5
                have HNA : Hid (∀ W', BelW w5 W' → Calls Tryz.prog 42 #[.pointer (some ⟨b, 0, none⟩)] W' fun e w' => e = .returned (.int .i64 (n : Int)) ∧ w' = W') := hid fun W' hW => by
                  have := (HW5.out.below hW).n
                  rw [show (askW Vj (k : Int)).l.length = n by rw [askW_l]; exact HOJ.out.len] at this
                  exact this
                clear HN5
                refine Tl.wp_mix_lit (by kernel_rfl) 9 [55, 56, 57, 58, 59, 60, 61, 62, 63] 67 rfl (by kernel_rfl) (BelW w5) (rgF b g k j n dt) ((Below.refl _ _).drew)
                  ⟨fun a' W' hC hF => ?_, fun a' W' hC hF => ?_, fun a' W' hC hF => ?_, fun a' W' hC hF => ?_, fun a' W' hC hF => ?_, fun a' W' hC hF => ?_, fun a' W' hC hF => ?_, fun a' W' hC hF => ?_, fun a' W' hC hF => ?_, trivial⟩ ?_
                · exact Tl.sm_v 55 _ rfl (Tl.wanted_none rfl) hC rfl (rn_move rfl ((hF 6 (by decide +kernel)).2 (by decide)))
                · exact Tl.sm_v 56 _ rfl (Tl.wanted_none rfl) hC rfl (rn_move rfl ((hF 7 (by decide +kernel)).2 (by decide)))
                · exact Tl.sm_v 57 _ rfl (Tl.wanted_none rfl) hC rfl (rn_move rfl ((hF 8 (by decide +kernel)).2 (by decide)))
                · exact Tl.sm_v 58 _ rfl (Tl.wanted_none rfl) hC rfl (rn_move rfl ((hF 0 (by decide +kernel)).2 (by decide)))
                · refine Tl.sm_call 42 #[_] (Tl.wanted_none rfl) (rn_call1 rfl rfl ((hF 58 (by decide +kernel)).1 (by decide)) (ens41 _ _)) ((HNA.out W' hC).mono ?_)
                  rintro e w'' ⟨rfl, rfl⟩
                  exact ⟨_, rfl, hC, fun d v _ h => h, fun d hd => by cases hd; rfl⟩
                · refine Tl.sm_call 51 #[_, _] (Tl.wanted_none rfl) (rn_call2 rfl rfl ((hF 57 (by decide +kernel)).1 (by decide)) ((hF 59 (by decide +kernel)).1 (by decide)) (ens51 _ _)) ((looked_any dt (n : Int) W' ((HW5.out.below hC).lay HL.out)).mono ?_)
                  rintro e w'' ⟨rfl, hb⟩
                  exact ⟨_, rfl, Below.trans hC (hb.mono (Below.size hC)), fun d v _ h => h, fun d hd => by cases hd; rfl⟩
                · exact Tl.sm_v 61 _ rfl (Tl.wanted_none rfl) hC rfl (rn_nilCheck rfl ((hF 55 (by decide +kernel)).1 (by decide)))
                · exact Tl.sm_v 62 _ rfl (Tl.wanted_none rfl) hC rfl (rn_f108 rfl ((hF 61 (by decide +kernel)).1 (by decide)))
                · exact Tl.sm_v 63 _ rfl (Tl.wanted_none rfl) hC rfl (rn_ix106 rfl ((hF 62 (by decide +kernel)).1 (by decide)) ((hF 56 (by decide +kernel)).1 (by decide)) (by omega))
                intro v w6 hw6 hv
                have v60 : v 60 = .agg (rV (lookd n dt)).toArray := hv 60 (by decide)
                have v63 : v 63 = .pointer (some ⟨g, k * 13 + 1 + j * 6, none⟩) := hv 63 (by decide)
                have hB6 : Below w5.heap.size w5 w6 := hw6
                clear hv hw6
                simp only [Tl.fill, List.drop_succ_cons, List.drop_zero, wpList]
                simp only [Act.put, List.setIfInBounds_toArray, List.set_cons_succ, List.set_cons_zero, v60, v63]
                clear v60 v63
                obtain ⟨rd, hrd⟩ : ∃ rd, rd = lookd n dt := ⟨_, rfl⟩
                rw [← hrd] at HS0 ⊢
                have hA6 := HA5.out.below hB6
                obtain ⟨w7, hw7⟩ : ∃ w7, w7 = set6 w6 g (k * 13 + 1 + j * 6) rd := ⟨_, rfl⟩
                have ho7 := set6_only w6 g (k * 13 + 1 + j * 6) rd
                rw [← hw7] at ho7
                have HW7 := hid ((HW5.out.below hB6).list (.inr rfl) HG0.out ho7)
                have HA7 : Hid (AllAt w7 g (L0.set k (gS n V1 k (j + 1)).1)) := hid (by
                  have := hA6.slot (j := k) (h := ⟨true, h0, h1⟩) (by rw [List.getElem?_set_self HKL.out]) (i := j) (by omega) rd
                  rw [List.set_set] at this
                  rw [hw7, HS0.out]
                  exact this)
                have HK7 : Hid (Kpt T w w7) := hid ((HK5.out.trans ((Kpt.below HW5.out hB6).sub fun i hi => .inl hi)).trans ⟨ho7.size, fun i hi => ho7.block i ((HW5.out.below hB6).lt i (.inl hi)) (HGT.out i hi)⟩)
                have HI7 : Hid (∀ i, i < j + 1 → (getW (gS n V1 k i).2 (k : Int) (mn i)).2 ≠ 56) := hid fun i hi => by
                  by_cases hij : i = j
                  · subst hij
                    rw [← HVJ.out]
                    exact HNE.out
                  · exact HI4.out i (by omega)
                rw [if_pos (Tl.wanted_none rfl)]
                left
                apply wp_store6 (x := .tmp 63) (y := .tmp 60) (i := k * 13 + 1 + j * 6) (r := rd) _ _ _ _ hA6 (by rw [List.length_set]; have := HKL.out; omega)
                rotate_left
                · rfl
                · rfl
                · rfl
                · rfl
                rw [← hw7]
                clear hA6 hB6 ho7 HW5 HA5 HK5 hrd hw7
                go_wp2_with fail
                go_roundg g2
                case measure => omega
                case rel => exact ⟨j + 1, by omega, by first | rfl | simp, hid ⟨by rw [HS1.out]; exact HW7.out, HA7.out, HK7.out, HI7.out⟩⟩
              · by_cases e5 : ee = 5
                · subst e5
                  rw [show okE 5 = true from rfl] at hw5 HA5 HS0
                  go_wp2_with fail
                  rw [← hw5]
                  clear hw5
                  have HN5 := HW5.out.n
                  rw [show (askW Vj (k : Int)).l.length = n by rw [askW_l]; exact HOJ.out.len] at HN5
                  unfold ptr at HN5
                  have HNA : Hid (∀ W', BelW w5 W' → Calls Tryz.prog 42 #[.pointer (some ⟨b, 0, none⟩)] W' fun e w' => e = .returned (.int .i64 (n : Int)) ∧ w' = W') := hid fun W' hW => by
                    have := (HW5.out.below hW).n
                    rw [show (askW Vj (k : Int)).l.length = n by rw [askW_l]; exact HOJ.out.len] at this
                    exact this
                  clear HN5
                  refine Tl.wp_mix_lit (by kernel_rfl) 9 [55, 56, 57, 58, 59, 60, 61, 62, 63] 67 rfl (by kernel_rfl) (BelW w5) (rgF b g k j n dt) ((Below.refl _ _).drew)
                    ⟨fun a' W' hC hF => ?_, fun a' W' hC hF => ?_, fun a' W' hC hF => ?_, fun a' W' hC hF => ?_, fun a' W' hC hF => ?_, fun a' W' hC hF => ?_, fun a' W' hC hF => ?_, fun a' W' hC hF => ?_, fun a' W' hC hF => ?_, trivial⟩ ?_
                  · exact Tl.sm_v 55 _ rfl (Tl.wanted_none rfl) hC rfl (rn_move rfl ((hF 6 (by decide +kernel)).2 (by decide)))
                  · exact Tl.sm_v 56 _ rfl (Tl.wanted_none rfl) hC rfl (rn_move rfl ((hF 7 (by decide +kernel)).2 (by decide)))
                  · exact Tl.sm_v 57 _ rfl (Tl.wanted_none rfl) hC rfl (rn_move rfl ((hF 8 (by decide +kernel)).2 (by decide)))
                  · exact Tl.sm_v 58 _ rfl (Tl.wanted_none rfl) hC rfl (rn_move rfl ((hF 0 (by decide +kernel)).2 (by decide)))
                  · refine Tl.sm_call 42 #[_] (Tl.wanted_none rfl) (rn_call1 rfl rfl ((hF 58 (by decide +kernel)).1 (by decide)) (ens41 _ _)) ((HNA.out W' hC).mono ?_)
                    rintro e w'' ⟨rfl, rfl⟩
                    exact ⟨_, rfl, hC, fun d v _ h => h, fun d hd => by cases hd; rfl⟩
                  · refine Tl.sm_call 51 #[_, _] (Tl.wanted_none rfl) (rn_call2 rfl rfl ((hF 57 (by decide +kernel)).1 (by decide)) ((hF 59 (by decide +kernel)).1 (by decide)) (ens51 _ _)) ((looked_any dt (n : Int) W' ((HW5.out.below hC).lay HL.out)).mono ?_)
                    rintro e w'' ⟨rfl, hb⟩
                    exact ⟨_, rfl, Below.trans hC (hb.mono (Below.size hC)), fun d v _ h => h, fun d hd => by cases hd; rfl⟩
                  · exact Tl.sm_v 61 _ rfl (Tl.wanted_none rfl) hC rfl (rn_nilCheck rfl ((hF 55 (by decide +kernel)).1 (by decide)))
                  · exact Tl.sm_v 62 _ rfl (Tl.wanted_none rfl) hC rfl (rn_f108 rfl ((hF 61 (by decide +kernel)).1 (by decide)))
                  · exact Tl.sm_v 63 _ rfl (Tl.wanted_none rfl) hC rfl (rn_ix106 rfl ((hF 62 (by decide +kernel)).1 (by decide)) ((hF 56 (by decide +kernel)).1 (by decide)) (by omega))
                  intro v w6 hw6 hv
                  have v60 : v 60 = .agg (rV (lookd n dt)).toArray := hv 60 (by decide)
                  have v63 : v 63 = .pointer (some ⟨g, k * 13 + 1 + j * 6, none⟩) := hv 63 (by decide)
                  have hB6 : Below w5.heap.size w5 w6 := hw6
                  clear hv hw6
                  simp only [Tl.fill, List.drop_succ_cons, List.drop_zero, wpList]
                  simp only [Act.put, List.setIfInBounds_toArray, List.set_cons_succ, List.set_cons_zero, v60, v63]
                  clear v60 v63
                  obtain ⟨rd, hrd⟩ : ∃ rd, rd = lookd n dt := ⟨_, rfl⟩
                  rw [← hrd] at HS0 ⊢
                  have hA6 := HA5.out.below hB6
                  obtain ⟨w7, hw7⟩ : ∃ w7, w7 = set6 w6 g (k * 13 + 1 + j * 6) rd := ⟨_, rfl⟩
                  have ho7 := set6_only w6 g (k * 13 + 1 + j * 6) rd
                  rw [← hw7] at ho7
                  have HW7 := hid ((HW5.out.below hB6).list (.inr rfl) HG0.out ho7)
                  have HA7 : Hid (AllAt w7 g (L0.set k (gS n V1 k (j + 1)).1)) := hid (by
                    have := hA6.slot (j := k) (h := ⟨true, h0, h1⟩) (by rw [List.getElem?_set_self HKL.out]) (i := j) (by omega) rd
                    rw [List.set_set] at this
                    rw [hw7, HS0.out]
                    exact this)
                  have HK7 : Hid (Kpt T w w7) := hid ((HK5.out.trans ((Kpt.below HW5.out hB6).sub fun i hi => .inl hi)).trans ⟨ho7.size, fun i hi => ho7.block i ((HW5.out.below hB6).lt i (.inl hi)) (HGT.out i hi)⟩)
                  have HI7 : Hid (∀ i, i < j + 1 → (getW (gS n V1 k i).2 (k : Int) (mn i)).2 ≠ 56) := hid fun i hi => by
                    by_cases hij : i = j
                    · subst hij
                      rw [← HVJ.out]
                      exact HNE.out
                    · exact HI4.out i (by omega)
                  rw [if_pos (Tl.wanted_none rfl)]
                  left
                  apply wp_store6 (x := .tmp 63) (y := .tmp 60) (i := k * 13 + 1 + j * 6) (r := rd) _ _ _ _ hA6 (by rw [List.length_set]; have := HKL.out; omega)
                  rotate_left
                  · rfl
                  · rfl
                  · rfl
                  · rfl
                  rw [← hw7]
                  clear hA6 hB6 ho7 HW5 HA5 HK5 hrd hw7
                  go_wp2_with fail
                  go_roundg g2
                  case measure => omega
                  case rel => exact ⟨j + 1, by omega, by first | rfl | simp, hid ⟨by rw [HS1.out]; exact HW7.out, HA7.out, HK7.out, HI7.out⟩⟩
                · have q4 : (ee == 0) = false := by simpa using e0
                  have q5 : (ee == 5) = false := by simpa using e5
                  rw [show okE ee = false by simp [okE, e0, e5]] at hw5 HA5 HS0
                  clear e0 e5
                  go_wp2_with fail
                  rw [← hw5]
                  clear hw5
                  have HN5 := HW5.out.n
                  rw [show (askW Vj (k : Int)).l.length = n by rw [askW_l]; exact HOJ.out.len] at HN5
                  unfold ptr at HN5
                  have HNA : Hid (∀ W', BelW w5 W' → Calls Tryz.prog 42 #[.pointer (some ⟨b, 0, none⟩)] W' fun e w' => e = .returned (.int .i64 (n : Int)) ∧ w' = W') := hid fun W' hW => by
                    have := (HW5.out.below hW).n
                    rw [show (askW Vj (k : Int)).l.length = n by rw [askW_l]; exact HOJ.out.len] at this
                    exact this
                  clear HN5
                  refine Tl.wp_mix_lit (by kernel_rfl) 9 [55, 56, 57, 58, 59, 60, 61, 62, 63] 67 rfl (by kernel_rfl) (BelW w5) (rgF b g k j n dt) ((Below.refl _ _).drew)
                    ⟨fun a' W' hC hF => ?_, fun a' W' hC hF => ?_, fun a' W' hC hF => ?_, fun a' W' hC hF => ?_, fun a' W' hC hF => ?_, fun a' W' hC hF => ?_, fun a' W' hC hF => ?_, fun a' W' hC hF => ?_, fun a' W' hC hF => ?_, trivial⟩ ?_
                  · exact Tl.sm_v 55 _ rfl (Tl.wanted_none rfl) hC rfl (rn_move rfl ((hF 6 (by decide +kernel)).2 (by decide)))
                  · exact Tl.sm_v 56 _ rfl (Tl.wanted_none rfl) hC rfl (rn_move rfl ((hF 7 (by decide +kernel)).2 (by decide)))
                  · exact Tl.sm_v 57 _ rfl (Tl.wanted_none rfl) hC rfl (rn_move rfl ((hF 8 (by decide +kernel)).2 (by decide)))
                  · exact Tl.sm_v 58 _ rfl (Tl.wanted_none rfl) hC rfl (rn_move rfl ((hF 0 (by decide +kernel)).2 (by decide)))
                  · refine Tl.sm_call 42 #[_] (Tl.wanted_none rfl) (rn_call1 rfl rfl ((hF 58 (by decide +kernel)).1 (by decide)) (ens41 _ _)) ((HNA.out W' hC).mono ?_)
                    rintro e w'' ⟨rfl, rfl⟩
                    exact ⟨_, rfl, hC, fun d v _ h => h, fun d hd => by cases hd; rfl⟩
                  · refine Tl.sm_call 51 #[_, _] (Tl.wanted_none rfl) (rn_call2 rfl rfl ((hF 57 (by decide +kernel)).1 (by decide)) ((hF 59 (by decide +kernel)).1 (by decide)) (ens51 _ _)) ((looked_any dt (n : Int) W' ((HW5.out.below hC).lay HL.out)).mono ?_)
                    rintro e w'' ⟨rfl, hb⟩
                    exact ⟨_, rfl, Below.trans hC (hb.mono (Below.size hC)), fun d v _ h => h, fun d hd => by cases hd; rfl⟩
                  · exact Tl.sm_v 61 _ rfl (Tl.wanted_none rfl) hC rfl (rn_nilCheck rfl ((hF 55 (by decide +kernel)).1 (by decide)))
                  · exact Tl.sm_v 62 _ rfl (Tl.wanted_none rfl) hC rfl (rn_f108 rfl ((hF 61 (by decide +kernel)).1 (by decide)))
                  · exact Tl.sm_v 63 _ rfl (Tl.wanted_none rfl) hC rfl (rn_ix106 rfl ((hF 62 (by decide +kernel)).1 (by decide)) ((hF 56 (by decide +kernel)).1 (by decide)) (by omega))
                  intro v w6 hw6 hv
                  have v60 : v 60 = .agg (rV (lookd n dt)).toArray := hv 60 (by decide)
                  have v63 : v 63 = .pointer (some ⟨g, k * 13 + 1 + j * 6, none⟩) := hv 63 (by decide)
                  have hB6 : Below w5.heap.size w5 w6 := hw6
                  clear hv hw6
                  simp only [Tl.fill, List.drop_succ_cons, List.drop_zero, wpList]
                  simp only [Act.put, List.setIfInBounds_toArray, List.set_cons_succ, List.set_cons_zero, v60, v63]
                  clear v60 v63
                  obtain ⟨rd, hrd⟩ : ∃ rd, rd = lookd n dt := ⟨_, rfl⟩
                  rw [← hrd] at HS0 ⊢
                  have hA6 := HA5.out.below hB6
                  obtain ⟨w7, hw7⟩ : ∃ w7, w7 = set6 w6 g (k * 13 + 1 + j * 6) rd := ⟨_, rfl⟩
                  have ho7 := set6_only w6 g (k * 13 + 1 + j * 6) rd
                  rw [← hw7] at ho7
                  have HW7 := hid ((HW5.out.below hB6).list (.inr rfl) HG0.out ho7)
                  have HA7 : Hid (AllAt w7 g (L0.set k (gS n V1 k (j + 1)).1)) := hid (by
                    have := hA6.slot (j := k) (h := ⟨false, h0, h1⟩) (by rw [List.getElem?_set_self HKL.out]) (i := j) (by omega) rd
                    rw [List.set_set] at this
                    rw [hw7, HS0.out]
                    exact this)
                  have HK7 : Hid (Kpt T w w7) := hid ((HK5.out.trans ((Kpt.below HW5.out hB6).sub fun i hi => .inl hi)).trans ⟨ho7.size, fun i hi => ho7.block i ((HW5.out.below hB6).lt i (.inl hi)) (HGT.out i hi)⟩)
                  have HI7 : Hid (∀ i, i < j + 1 → (getW (gS n V1 k i).2 (k : Int) (mn i)).2 ≠ 56) := hid fun i hi => by
                    by_cases hij : i = j
                    · subst hij
                      rw [← HVJ.out]
                      exact HNE.out
                    · exact HI4.out i (by omega)
                  rw [if_pos (Tl.wanted_none rfl)]
                  left
                  apply wp_store6 (x := .tmp 63) (y := .tmp 60) (i := k * 13 + 1 + j * 6) (r := rd) _ _ _ _ hA6 (by rw [List.length_set]; have := HKL.out; omega)
                  rotate_left
                  · rfl
                  · rfl
                  · rfl
                  · rfl
                  rw [← hw7]
                  clear hA6 hB6 ho7 HW5 HA5 HK5 hrd hw7
                  go_wp2_with fail
                  go_roundg g2
                  case measure => omega
                  case rel => exact ⟨j + 1, by omega, by first | rfl | simp, hid ⟨by rw [HS1.out]; exact HW7.out, HA7.out, HK7.out, HI7.out⟩⟩
end Go.Proofs.YtmpgfpmkmgebdaaGreatDoor
