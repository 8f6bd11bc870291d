/- The walk of MatrixApart. -/
import Derived.Test.YtnihohcdamhidaaWorks
namespace Go.Proofs.Ytnihohcdamhidaa
open Go.RowKit
theorem rows_apart0 : ∀ (K : Fin 13) (i k : Fin 12), 2 ≤ K.val → k.val < i.val → (List.range K.val).map (ofVal K.val i.val) ≠ (List.range K.val).map (ofVal K.val k.val) := by decide +kernel
theorem rows_apart {K i k : Nat} (h1 : 2 ≤ K) (h2 : K ≤ 12) (h3 : k < i) (h4 : i < 12) : (List.range K).map (ofVal K i) ≠ (List.range K).map (ofVal K k) :=
  rows_apart0 ⟨K, by omega⟩ ⟨i, h4⟩ ⟨k, by omega⟩ h1 h3
theorem cross0 : ∀ (i k j l : Fin 12), l.val < j.val → j.val < k.val → k.val < i.val → Fld.mul (Fld.inv (i.val ^^^ j.val)) (Fld.inv (k.val ^^^ l.val)) ≠ Fld.mul (Fld.inv (i.val ^^^ l.val)) (Fld.inv (k.val ^^^ j.val)) := by decide +kernel
theorem cross {K i k j l : Nat} (h1 : l < j) (h2 : j < K) (h3 : K ≤ k) (h4 : k < i) (h5 : i < 12) : Fld.mul (ofVal K i j) (ofVal K k l) ≠ Fld.mul (ofVal K i l) (ofVal K k j) := by
  simp only [ofVal, if_neg (show ¬ i < K by omega), if_neg (show ¬ k < K by omega)]
  exact cross0 ⟨i, h5⟩ ⟨k, by omega⟩ ⟨j, by omega⟩ ⟨l, by omega⟩ h1 (by show j < k; omega) h4
theorem ofM_may {K N : Nat} (h1 : 1 ≤ K) (h2 : K ≤ N) (h3 : N ≤ 12) : mayM (ofM K N) = true := by
  unfold mayM
  rw [decide_eq_true_iff, ofM, grid_length, grid_row_length _ _ _ _ (by omega)]
  exact ⟨by omega, h3, h1, by omega, fun j hj => grid_row_length _ _ _ _ hj⟩
theorem ofM_get (K N i j : Nat) (hi : i < N) (hj : j < K) : ((ofM K N).getD i []).getD j 0 = ofVal K i j := by
  rw [ofM, grid_row _ _ _ _ hi, List.getD_eq_getElem?_getD, List.getElem?_map, List.getElem?_range hj]; rfl
theorem ofM_row (K N i : Nat) (hi : i < N) : (ofM K N).getD i [] = (List.range K).map (ofVal K i) := by
  rw [ofM, grid_row _ _ _ _ hi]
/-- a product, by a field that is there: the world is as it was, but for draws -/
theorem mul_draws (b0 : Nat) (a b : Nat) (ha : a < 256) (hb : b < 256) (w : World) (hf : Has w b0 FC 61) :
    Calls Try.prog 29 #[.pointer (some ⟨b0, 0, none⟩), .int .u8 (a : Int), .int .u8 (b : Int)] w fun e w' => e = .returned (.int .u8 ((Fld.mul a b : Nat) : Int)) ∧ ∃ n, w' = w.drewN n := by
  by_cases a0 : a = 0
  · subst a0
    rw [Fld.zero_mul]
    go_enter Try.func29, Try.ntmps29
    go_wp2_with fail
    go_ret
    exact ⟨rfl, 0, rfl⟩
  have da : ((a : Int) == 0) = false := by rw [beq_eq_false_iff_ne]; omega
  by_cases b0' : b = 0
  · subst b0'
    rw [Fld.mul_zero]
    go_enter Try.func29, Try.ntmps29
    go_wp2_with fail
    go_ret
    exact ⟨rfl, 0, rfl⟩
  have db : ((b : Int) == 0) = false := by rw [beq_eq_false_iff_ne]; omega
  have la := Fld.lg_lt ha
  have lb := Fld.lg_lt hb
  have HR : Hid (Fld.mul a b = Fld.exp ((Fld.lg a : Int) + (Fld.lg b : Int))) := by
    unfold Hid; rw [Fld.mul_nz a0 b0']; unfold Fld.exp; congr 1
  have i0 : (a : Int) < 256 := by omega
  have i1 : (b : Int) < 256 := by omega
  rw [HR.out]
  go_enter Try.func29, Try.ntmps29
  go_wp2_with fail
  refine (orNew_same b0 _).mono ?_
  rintro e w1 ⟨rfl, rfl⟩
  have c0 := (hf.cell (255 + a)).trans (FC_lg ha)
  have c1 := (hf.cell (255 + b)).trans (FC_lg hb)
  go_wp2_with fail
  go_quiet ((go_at_call 42; exact Calls.quiet_of_same (exp_same _ _ _ (by assumption))))
  go_wp2_with fail
  go_ret
  exact ⟨rfl, _, rfl⟩
set_option maxRecDepth 20000 in
set_option maxHeartbeats 4000000 in
theorem apart_t (K N : Nat) (h1 : 1 ≤ K) (h2 : K ≤ N) (h3 : N ≤ 12) (w : World) :
    Calls Try.prog 7 #[.agg #[.int .i64 (K : Int), .int .i64 (N : Int)]] w fun e w' => e = .returned (.bool true) ∧ Below w.heap.size w w' := by
  have hmc : mayC (K : Int) (N : Int) = true := by unfold mayC; rw [decide_eq_true_iff]; omega
  have hE : errC (K : Int) (N : Int) = 0 := by simp [errC, hmc]
  have hA : ansC (K : Int) (N : Int) = ofM K N := by simp [ansC, hmc]
  have hb0 : Below w.heap.size w (w.alloc (.cells #[.int .i64 (K : Int), .int .i64 (N : Int)] 29)) := (Below.refl _ _).alloc (Nat.le_refl _) _
  have hB0 : Has (w.alloc (.cells #[.int .i64 (K : Int), .int .i64 (N : Int)] 29)) w.heap.size #[.int .i64 (K : Int), .int .i64 (N : Int)] 29 := Has.new w _ _ _ rfl
  go_enter Try.func7, Try.ntmps7
  go_wp2_with fail
  refine (of_any (K : Int) (N : Int) _).mono ?_
  rintro e w1 ⟨vm, rfl, hM, b1⟩
  rw [hE]
  rw [hA] at hM
  have hM1 := hM.mat
  have hB1 := hB0.below b1 hB0.lt
  have B1 := belowCall hb0 b1
  clear hB0 hb0 b1 hM
  go_wp2_with fail
  refine (works_true w1).mono ?_
  rintro e w2 ⟨rfl, b2⟩
  have hM2 := hM1.below b2
  have hB2 := hB1.below b2 hB1.lt
  have B2 := belowCall B1 b2
  clear hM1 hB1 b2 B1
  go_wp2_with fail
  refine (new_any w2).mono ?_
  rintro e w3 ⟨rfl, hF, b3⟩
  have hM3 := hM2.below b3
  have hB3 := hB2.below b3 hB2.lt
  have B3 := belowCall B2 b3
  have hF3 : Has w3 w2.heap.size FC 61 := hF
  clear hM2 hB2 b3 B2 hF
  generalize hfb : w2.heap.size = fb at *
  have hrw : Hid (∀ i, i < N → ∀ W r, Row8 W r ((ofM K N).getD i []) → (convert 32 9 r).run Try.prog W = .ok (.string (ofBs ((List.range K).map (ofVal K i)))) W) := fun i hi W r hr => by
    rw [← ofM_row K N i hi]; exact conv_row hr
  have hmat := hM3
  obtain ⟨g, o, cap, rfl, hg, hrows⟩ := hM3.may (ofM_may h1 h2 h3)
  have hlen : (ofM K N).length = N := by rw [ofM, grid_length]
  have hcol : ((ofM K N).getD 0 []).length = K := by rw [ofM, grid_row_length _ _ _ _ (by omega)]
  rw [hlen, hcol] at hrows
  rw [hlen]
  obtain ⟨_, _, _, emm, _, _, hraw⟩ := hmat.some (by rw [hlen]; omega)
  simp only [Value.slice.injEq, Option.some.injEq, Addr.mk.injEq] at emm
  obtain ⟨⟨rfl, rfl, _⟩, _, _⟩ := emm
  rw [hlen] at hraw
  generalize hBS : w3.heap.size = BS at *
  have KK : Hid (∀ W, Below BS w3 W → W.cell? ⟨w.heap.size, 0, none⟩ = some (.int .i64 (K : Int)) ∧ W.cell? ⟨w.heap.size, 1, none⟩ = some (.int .i64 (N : Int)) ∧ Has W fb FC 61) := fun W hW => by
    rw [← hBS] at hW
    have h := hB3.below hW hB3.lt
    exact ⟨h.cell 0, h.cell 1, hF3.below hW hF3.lt⟩
  have RR : Hid (∀ i, i < N → ∃ gr q cr, ∀ W, Below BS w3 W → W.cell? ⟨g, o + i, none⟩ = some (.slice (some ⟨gr, q, none⟩) K cr) ∧ ∀ j, j < K → W.cell? ⟨gr, q + j, none⟩ = some (.int .u8 ((ofVal K i j : Nat) : Int))) := fun i hi => by
    obtain ⟨gr, q, cr, hgr, k1, k2⟩ := hrows i hi
    refine ⟨gr, q, cr, fun W hW => ⟨cell_below hW hg k1, fun j hj => ?_⟩⟩
    have := cell_below hW hgr (k2 j hj).1
    rw [ofM_get K N i j hi hj] at this; exact this
  have RC : Hid (∀ i, i < N → ∃ r, ∀ W, Below BS w3 W → W.cell? ⟨g, o + i, none⟩ = some r ∧ (convert 32 9 r).run Try.prog W = .ok (.string (ofBs ((List.range K).map (ofVal K i)))) W) := fun i hi => by
    obtain ⟨r, k1, k2⟩ := hraw i hi
    exact ⟨r, fun W hW => ⟨cell_below hW hg k1, hrw.out i hi W r (k2.below (by rw [hBS]; exact hW))⟩⟩
  have hBSw : w.heap.size ≤ BS := by rw [← hBS]; exact B3.size
  clear hrows hraw hB3 hF3 hmat hM3
  go_wp2_with fail
  go_loopw [6] (fun vi wr => ∃ i : Nat, i ≤ N ∧ vi = .int .i64 (i : Int) ∧ Below BS w3 wr) (fun vi _ => N - (intOf vi).toNat)
  case atStart => exact ⟨0, by omega, rfl, by rw [← hBS]; exact Below.refl _ _⟩
  case round =>
    obtain ⟨i, hi, rfl, hb⟩ := hrel
    obtain ⟨kK, kN, _⟩ := KK.out wr hb
    by_cases hlt : i < N
    · have d0 : decide ((i : Int) < (N : Int)) = true := by simp; omega
      go_wp2_with fail
      clear kK kN
      go_loopw [7] (fun vk W => ∃ k : Nat, k ≤ i ∧ vk = .int .i64 (k : Int) ∧ Below BS w3 W) (fun vk _ => i - (intOf vk).toNat)
      case atStart => exact ⟨0, by omega, rfl, hb⟩
      case round =>
        obtain ⟨k, hk, rfl, hb2⟩ := hrel
        clear hb
        obtain ⟨kK, kN, _⟩ := KK.out wr hb2
        by_cases hki : k < i
        · have d1 : decide ((k : Int) < (i : Int)) = true := by simp; omega
          have d2 : (k : Int) < (N : Int) := by omega
          have d3 : (i : Int) < (N : Int) := by omega
          by_cases hK2 : 1 < K
          · have d4 : decide ((1 : Int) < (K : Int)) = true := by simp; omega
            obtain ⟨ri, hri⟩ := RC.out i hlt
            obtain ⟨rk, hrk⟩ := RC.out k (by omega)
            have hlt8 : ∀ i, ∀ x ∈ (List.range K).map (ofVal K i), x < 256 := fun i x hx => by
              simp only [List.mem_map] at hx; obtain ⟨j, _, rfl⟩ := hx; exact ofVal_lt _ _ _
            have e1 : ((ofBs ((List.range K).map (ofVal K i))).toList == (ofBs ((List.range K).map (ofVal K k))).toList) = false := str_ne (hlt8 i) (hlt8 k) (rows_apart (by omega) (by omega) hki (by omega))
            clear hlt8
            generalize ofBs ((List.range K).map (ofVal K i)) = si at *
            generalize ofBs ((List.range K).map (ofVal K k)) = sk at *
            have HS : Hid (∀ W, Below BS w3 W → Below BS w3 W ∧ W.cell? ⟨w.heap.size, 0, none⟩ = some (.int .i64 (K : Int)) ∧ W.cell? ⟨g, o + i, none⟩ = some ri ∧ W.cell? ⟨g, o + k, none⟩ = some rk ∧ (convert 32 9 ri).run Try.prog W = .ok (.string si) W ∧ (convert 32 9 rk).run Try.prog W = .ok (.string sk) W) := fun W hW =>
              ⟨hW, (KK.out W hW).1, (hri W hW).1, (hrk W hW).1, (hri W hW).2, (hrk W hW).2⟩
            clear hri hrk kK kN
            go_wp2_with fail
            go_region_held3 (fun W => Below BS w3 W ∧ W.cell? ⟨w.heap.size, 0, none⟩ = some (.int .i64 (K : Int)) ∧ W.cell? ⟨g, o + i, none⟩ = some ri ∧ W.cell? ⟨g, o + k, none⟩ = some rk ∧ (convert 32 9 ri).run Try.prog W = .ok (.string si) W ∧ (convert 32 9 rk).run Try.prog W = .ok (.string sk) W) (exact HS.out _ hb2.drew) ((fail))
            go_wp2_with fail
            exact ⟨⟨k + 1, by omega, rfl, hb2.drew⟩, by simp [intOf]; omega⟩
          · have d4 : decide ((1 : Int) < (K : Int)) = false := by simp; omega
            go_wp2_with fail
            go_quiet (fail)
            go_wp2_with fail
            exact ⟨⟨k + 1, by omega, rfl, below_drewN hb2 _⟩, by simp [intOf]; omega⟩
        · obtain rfl : k = i := by omega
          have d1 : decide ((k : Int) < (k : Int)) = false := by simp
          go_wp2_with fail
          clear kK kN d1
          go_loopw [8] (fun vj W => ∃ j : Nat, j ≤ K ∧ vj = .int .i64 (j : Int) ∧ Below BS w3 W) (fun vj _ => K - (intOf vj).toNat)
          case atStart => exact ⟨0, by omega, rfl, hb2⟩
          case round =>
            obtain ⟨j, hj, rfl, hb3⟩ := hrel
            clear hb2
            obtain ⟨kK, kN, _⟩ := KK.out wr hb3
            by_cases hjK : j < K
            · have d1 : decide ((j : Int) < (K : Int)) = true := by simp; omega
              by_cases hKi : K ≤ k
              · have d2 : decide ((K : Int) ≤ (k : Int)) = true := by simp; omega
                have d3 : (k : Int) < (N : Int) := by omega
                have d4 : (j : Int) < (K : Int) := by omega
                obtain ⟨gi, qi, ci, hri⟩ := RR.out k hlt
                have c1 := (hri wr hb3).1
                have c2 := (hri wr hb3).2 j hjK
                have hnz : (((ofVal K k j : Nat) : Int) == 0) = false := by
                  rw [beq_eq_false_iff_ne]
                  have : ofVal K k j ≠ 0 := by unfold ofVal; rw [if_neg (by omega)]; exact Fld.inv_ne _
                  omega
                generalize hx1 : ofVal K k j = x1 at *
                go_wp2_with fail
                clear kK kN c1 c2 hnz d1 d2
                go_loopw [9] (fun vk W => ∃ m : Nat, K ≤ m ∧ m ≤ k ∧ vk = .int .i64 (m : Int) ∧ Below BS w3 W) (fun vk _ => k - (intOf vk).toNat)
                case atStart => exact ⟨K, by omega, hKi, rfl, hb3⟩
                case round =>
                  obtain ⟨m, hm1, hm2, rfl, hb4⟩ := hrel
                  clear hb3
                  by_cases hmk : m < k
                  · have d5 : decide ((m : Int) < (k : Int)) = true := by simp; omega
                    go_wp2_with fail
                    go_loopw [10] (fun vl W => ∃ l : Nat, l ≤ j ∧ vl = .int .i64 (l : Int) ∧ Below BS w3 W) (fun vl _ => j - (intOf vl).toNat)
                    case atStart => exact ⟨0, by omega, rfl, hb4⟩
                    case round =>
                      obtain ⟨l, hl, rfl, hb5⟩ := hrel
                      clear hb4
                      by_cases hlj : l < j
                      · have d6 : decide ((l : Int) < (j : Int)) = true := by simp; omega
                        have d7 : (l : Int) < (K : Int) := by omega
                        have d8 : (m : Int) < (N : Int) := by omega
                        obtain ⟨gm, qm, cm, hrm⟩ := RR.out m (by omega)
                        have hcr := cross (K := K) hlj hjK hm1 hmk (by omega)
                        have l1 := ofVal_lt K k j
                        have l2 := ofVal_lt K m l
                        have l3 := ofVal_lt K k l
                        have l4 := ofVal_lt K m j
                        have HS : Hid (∀ W, Below BS w3 W → Below BS w3 W ∧ W.cell? ⟨g, o + k, none⟩ = some (.slice (some ⟨gi, qi, none⟩) K ci) ∧ W.cell? ⟨g, o + m, none⟩ = some (.slice (some ⟨gm, qm, none⟩) K cm) ∧ W.cell? ⟨gi, qi + j, none⟩ = some (.int .u8 ((ofVal K k j : Nat) : Int)) ∧ W.cell? ⟨gm, qm + l, none⟩ = some (.int .u8 ((ofVal K m l : Nat) : Int)) ∧ W.cell? ⟨gi, qi + l, none⟩ = some (.int .u8 ((ofVal K k l : Nat) : Int)) ∧ W.cell? ⟨gm, qm + j, none⟩ = some (.int .u8 ((ofVal K m j : Nat) : Int))) := fun W hW =>
                          ⟨hW, (hri W hW).1, (hrm W hW).1, (hri W hW).2 j hjK, (hrm W hW).2 l (by omega), (hri W hW).2 l (by omega), (hrm W hW).2 j hjK⟩
                        rw [hx1] at HS hcr l1
                        generalize ofVal K m l = x2 at *
                        generalize ofVal K k l = x3 at *
                        generalize ofVal K m j = x4 at *
                        have ecr : (((Fld.mul x1 x2 : Nat) : Int) == ((Fld.mul x3 x4 : Nat) : Int)) = false := by
                          rw [beq_eq_false_iff_ne]; omega
                        obtain ⟨_, c1, c2, c3, c4, c5, c6⟩ := HS.out _ hb5
                        have hfw : Hid (∀ n, Has (wr.drewN n) fb FC 61) := fun n => (KK.out _ hb5).2.2.drewN n
                        have hq1 : Hid (∀ n, Calls Try.prog 29 #[.pointer (some ⟨fb, 0, none⟩), .int .u8 (x1 : Int), .int .u8 (x2 : Int)] (wr.drewN n) fun e w'' => e = .returned (.int .u8 ((Fld.mul x1 x2 : Nat) : Int)) ∧ ∃ m, w'' = wr.drewN m) := fun n => Calls.quiet_of (mul_draws fb x1 x2 l1 l2 _ (hfw.out n))
                        have hq2 : Hid (∀ n, Calls Try.prog 29 #[.pointer (some ⟨fb, 0, none⟩), .int .u8 (x3 : Int), .int .u8 (x4 : Int)] (wr.drewN n) fun e w'' => e = .returned (.int .u8 ((Fld.mul x3 x4 : Nat) : Int)) ∧ ∃ m, w'' = wr.drewN m) := fun n => Calls.quiet_of (mul_draws fb x3 x4 l3 l4 _ (hfw.out n))
                        generalize Fld.mul x1 x2 = m1 at *
                        generalize Fld.mul x3 x4 = m2 at *
                        clear HS hri hrm hcr hfw l1 l2 l3 l4
                        go_wp2_with fail
                        go_quiet (first
                          | (go_at_call 29; with_reducible exact hq1.out _)
                          | (go_at_call 29; with_reducible exact hq2.out _))
                        go_wp2_with fail
                        exact ⟨⟨l + 1, by omega, rfl, below_drewN hb5 _⟩, by simp [intOf]; omega⟩
                      · obtain rfl : l = j := by omega
                        have d6 : decide ((l : Int) < (l : Int)) = false := by simp
                        go_wp2_with fail
                        exact ⟨⟨m + 1, by omega, by omega, rfl, hb5⟩, by simp [intOf]; omega⟩
                  · obtain rfl : m = k := by omega
                    have d5 : decide ((m : Int) < (m : Int)) = false := by simp
                    go_wp2_with fail
                    exact ⟨⟨j + 1, by omega, rfl, hb4⟩, by simp [intOf]; omega⟩
              · have d2 : decide ((K : Int) ≤ (k : Int)) = false := by simp; omega
                go_wp2_with fail
                exact ⟨⟨k + 1, by omega, rfl, hb3⟩, by simp [intOf]; omega⟩
            · have d1 : decide ((j : Int) < (K : Int)) = false := by simp; omega
              go_wp2_with fail
              exact ⟨⟨k + 1, by omega, rfl, hb3⟩, by simp [intOf]; omega⟩
    · obtain rfl : i = N := by omega
      have d0 : decide ((i : Int) < (i : Int)) = false := by simp
      have d1 : ((i : Int) == (i : Int)) = true := by simp
      go_wp2_with fail
      go_ret
      exact ⟨rfl, B3.trans (hb.mono hBSw)⟩
theorem apart_walk (K N : Int) (w : World) :
    Calls Try.prog 7 #[.agg #[.int .i64 K, .int .i64 N]] w fun e w' => e = .returned (.bool true) ∧ Below w.heap.size w w' := by
  cases h : mayC K N
  · have hE : errC K N = 1 := by simp [errC, h]
    have hb0 : Below w.heap.size w (w.alloc (.cells #[.int .i64 K, .int .i64 N] 29)) := (Below.refl _ _).alloc (Nat.le_refl _) _
    go_enter Try.func7, Try.ntmps7
    go_wp2_with fail
    refine (of_any K N _).mono ?_
    rintro e w1 ⟨vm, rfl, hM, b1⟩
    rw [hE]
    have B1 := belowCall hb0 b1
    go_wp2_with fail
    refine (works_true w1).mono ?_
    rintro e w2 ⟨rfl, b2⟩
    have B2 := belowCall B1 b2
    go_wp2_with fail
    refine (works_true w2).mono ?_
    rintro e w3 ⟨rfl, b3⟩
    have B3 := belowCall B2 b3
    go_wp2_with fail
    go_ret
    exact ⟨rfl, B3⟩
  · have h' : 1 ≤ K ∧ K ≤ N ∧ N ≤ 12 := of_decide_eq_true h
    obtain ⟨k, rfl⟩ : ∃ k : Nat, K = (k : Int) := ⟨K.toNat, by omega⟩
    obtain ⟨n, rfl⟩ : ∃ n : Nat, N = (n : Int) := ⟨N.toNat, by omega⟩
    exact apart_t k n (by omega) (by omega) (by omega) w
end Go.Proofs.Ytnihohcdamhidaa
