/- The library's DeleteFunc at chunks. -/
import Derived.Test.YtknddbmnciodaaaGreatDel
namespace Go.Proofs.YtknddbmnciodaaaGreat
open Go.RowKit Go.Lib Go.Sort
open Ix
set_option linter.unusedVariables false
set_option maxHeartbeats 8000000 in
theorem delete_any (g : Nat) (lb : Array Value) (p : En → Bool) (eg : ∀ args w, (callFunc g args).run Tryz.prog w = .ok (.enter g args) w) (b : Nat) (M : List En) (hn : M.length ≤ 100000) (hsz : ∀ e ∈ M, e.1.size ≤ 1000000) (w : World) (hM : Has w b (kC M) 61) (hp : PredO g lb p b w) :
    Calls Tryz.prog 34 #[.slice (some ⟨b, 0, none⟩) M.length M.length, .func (.func g) #[] lb] w fun e w' => e = .returned (.slice (some ⟨b, 0, none⟩) (M.filter fun y => !p y).length M.length) ∧ Rw ck4 4 w' b (M.filter fun y => !p y) ∧ Onl b w w' := by
  obtain ⟨L, hL⟩ := small_list hsz
  have hll : L.length = M.length := by rw [← hL, List.length_map]
  have hpb : PredBelow Tryz.prog g lb (fun x : SmallEn => .agg (ck4 x.val).toArray) (fun x => p x.val) w := fun W x hb => (hp W x.val x.property (Onl.of hb (Nat.le_refl _))).mono fun e w' ⟨h1, h2⟩ => ⟨h1, hb.trans (h2.mono hb.size)⟩
  have hcI : ∀ j, j < L.length → ∀ i v, (ck4 (L[j]!).val)[i]? = some v → w.cell? ⟨b, 0 + j * 4 + i, none⟩ = some v := fun j hj i v hv => by
    rw [hll] at hj
    rw [small_get hL hj] at hv
    rw [Nat.zero_add]
    exact (has_rw (f := ck4) (fun _ => rfl) hM j _ (by rw [getElem!_pos M j hj]; exact List.getElem?_eq_getElem hj) i v hv).1
  have hIF := AnyQ.slices_IndexFunc Tryz.idxC 4 Tryz.isAgg61 Tryz.sizeOf61 (fun x : SmallEn => ck4 x.val) (fun _ => rfl) (fun x => p x.val) g lb eg b 0 M.length M.length L w hpb (by omega) (by omega) hM.lt hcI
  rw [List.take_of_length_le (by omega)] at hIF
  change Calls Tryz.prog 56 _ _ _ at hIF
  rcases idxByFrom_spec (fun (_ y : SmallEn) => p y.val) default L 0 with ⟨e1, hall⟩ | ⟨k0, hk0, e1, ht, hall⟩
  · have e2 : Lib.idxBy (fun (_ y : SmallEn) => p y.val) L default = -1 := e1
    replace hall : ∀ j, j < M.length → p M[j]! = false := fun j hj => by rw [← small_get hL hj]; exact hall j (by omega)
    clear hL
    rw [e2] at hIF
    have hfil : (M.filter fun y => !p y) = M := by
      rw [List.filter_eq_self]
      intro y hy
      obtain ⟨j, hj, e⟩ := List.mem_iff_getElem.1 hy
      have := hall j hj
      rw [getElem!_pos M j hj, e] at this
      rw [this]; rfl
    rw [hfil]
    have HM := hid hM
    clear hpb hcI hM hp hall e1 e2 hfil
    generalize hm : M.length = m at *
    clear hm
    go_enter Tryz.func34, Tryz.ntmps34
    go_wp2_with (go_at_call 56; refine hIF.mono ?_; rintro e w' ⟨rfl, hb⟩)
    go_ret
    exact ⟨rfl, (has_rw (f := ck4) (fun _ => rfl) HM.out).below hb HM.out.lt, Onl.of hb (Nat.le_refl _)⟩
  · have e2 : Lib.idxBy (fun (_ y : SmallEn) => p y.val) L default = (k0 : Int) := by unfold Lib.idxBy; rw [e1]; simp
    rw [hll] at hk0
    replace hall : ∀ j, j < k0 → p M[j]! = false := fun j hj => by rw [← small_get hL (by omega)]; exact hall j hj
    replace ht : p M[k0]! = true := by rw [← small_get hL hk0]; exact ht
    clear hL
    have HSZ := hid hsz
    clear hsz
    rw [e2] at hIF
    have hx0 : M[k0]? = some M[k0]! := by rw [getElem!_pos M k0 hk0]; exact List.getElem?_eq_getElem hk0
    have hd0 : Dl p M M k0 (k0 + 1) := Dl.start hx0 ht (fun j hj y hy => by
      have h1 := hall j hj
      have hjl : j < M.length := by omega
      rw [getElem!_pos M j hjl] at h1
      rw [List.getElem?_eq_getElem hjl] at hy
      cases hy; exact h1)
    have HD0 := hid hd0
    have HM := hid hM
    have HP := hid hp
    have hne1 : ((k0 : Int) == -1) = false := beq_eq_false_iff_ne.2 (by omega)
    have wk0 : IntKind.i64.wrap ((k0 : Int) + 1) = ((k0 + 1 : Nat) : Int) := by rw [IntKind.wrap_i64]; omega
    clear hpb hcI hM hp hall e1 e2 ht hx0 hd0
    obtain ⟨m, hm⟩ : ∃ m, m = M.length := ⟨_, rfl⟩
    have HMM := hid hm
    rw [← hm] at hn hk0 hIF ⊢
    clear hm
    have HI := hid hIF
    clear hIF
    go_enter Tryz.func34, Tryz.ntmps34
    go_wp2_with fail
    refine HI.out.mono ?_
    rintro e w1 ⟨rfl, hb1⟩
    have HO1 := hid (Onl.of (b := b) hb1 (Nat.le_refl _))
    have HM1 := hid (HM.out.below hb1 HM.out.lt)
    clear hb1 HI
    go_wp2_with fail
    go_loopw [5, 6] (fun v5 v6 wr => ∃ (i j : Nat) (D : List En), v5 = .int .i64 (i : Int) ∧ v6 = .int .i64 (j : Int) ∧ j ≤ m ∧ Hid (Dl p M D i j) ∧ Hid (Has wr b (kC D) 61) ∧ Hid (Onl b w wr)) (fun _ v6 _ => m - (intOf v6).toNat)
    case atStart => exact ⟨k0, k0 + 1, M, rfl, rfl, by omega, HD0, HM1, HO1⟩
    case round =>
      clear HD0 HM1 HO1
      obtain ⟨i, j, D, rfl, rfl, hjm, HD, HB, HO⟩ := hrel
      by_cases hlt : j < m
      · have hj1 : j < M.length := by rw [← HMM.out]; exact hlt
        have hjD : j < D.length := by rw [HD.out.len]; exact hj1
        have hij := HD.out.le
        have hiD : i < D.length := by omega
        have hxj : M[j]? = some (M.getD j YtknddbmnciodaaaGreat.k0) := get_of YtknddbmnciodaaaGreat.k0 hj1
        have hDj : D.getD j YtknddbmnciodaaaGreat.k0 = M.getD j YtknddbmnciodaaaGreat.k0 := by
          have := HD.out.rest j (Nat.le_refl _)
          rw [get_of YtknddbmnciodaaaGreat.k0 hjD, hxj] at this
          exact Option.some.inj this
        obtain ⟨c1, c2, c3, c4⟩ := kC_cells HB.out j hjD
        rw [hDj] at c1 c2 c3 c4
        have HXJ := hid hxj
        obtain ⟨x, hx⟩ : ∃ x, x = M.getD j YtknddbmnciodaaaGreat.k0 := ⟨_, rfl⟩
        rw [← hx] at c1 c2 c3 c4 HXJ
        have j1 : (j : Int) < (m : Int) := by omega
        have j0 : (0 : Int) ≤ (j : Int) := by omega
        have i1 : (i : Int) < (m : Int) := by omega
        have i0 : (0 : Int) ≤ (i : Int) := by omega
        have wj : IntKind.i64.wrap ((j : Int) + 1) = ((j + 1 : Nat) : Int) := by rw [IntKind.wrap_i64]; omega
        have wi : IntKind.i64.wrap ((i : Int) + 1) = ((i + 1 : Nat) : Int) := by rw [IntKind.wrap_i64]; omega
        obtain ⟨w2, hw2⟩ : ∃ w2, w2 = wr.alloc (.cells #[.string x.1, .string x.2.pack, .int .i64 x.2.at_, .int .i64 x.2.len] 61) := ⟨_, rfl⟩
        have hb2 : RowKit.Below wr.heap.size wr w2 := by rw [hw2]; exact (RowKit.Below.refl _ _).alloc (Nat.le_refl _) _
        have n2 : Has w2 wr.heap.size #[.string x.1, .string x.2.pack, .int .i64 x.2.at_, .int .i64 x.2.len] 61 := by rw [hw2]; exact Has.new _ _ _ _ rfl
        have hO2 := HO.out.trans (Onl.of (b := b) hb2 (Nat.le_refl _))
        have C1 := HP.out w2 x (by rw [hx]; exact HSZ.out _ (by rw [List.getD_eq_getElem?_getD, List.getElem?_eq_getElem hj1]; exact List.getElem_mem hj1)) hO2
        have hB2 := HB.out.below hb2 HB.out.lt
        have d1 : w2.cell? ⟨wr.heap.size, 0, none⟩ = some (.string x.1) := by rw [n2.cell]; rfl
        have d2 : w2.cell? ⟨wr.heap.size, 1, none⟩ = some (.string x.2.pack) := by rw [n2.cell]; rfl
        have d3 : w2.cell? ⟨wr.heap.size, 2, none⟩ = some (.int .i64 x.2.at_) := by rw [n2.cell]; rfl
        have d4 : w2.cell? ⟨wr.heap.size, 3, none⟩ = some (.int .i64 x.2.len) := by rw [n2.cell]; rfl
        have HB2 := hid hB2
        have HO2 := hid hO2
        have HN2 := hid n2
        have HLI : Hid (i < D.length) := hid hiD
        clear hx hxj hDj hjD hiD hB2 hO2 n2 hb2 HB HO
        change Calls Tryz.prog g (#[.agg #[.string x.1, .string x.2.pack, .int .i64 x.2.at_, .int .i64 x.2.len]] ++ lb) w2 _ at C1
        have HQ := hid (fun h : p x = true => HD.out.skip HXJ.out h)
        have HQ2 := hid (fun h : p x = false => HD.out.keep HXJ.out h)
        have HJ : Hid (i < j) := hid hij
        clear HD
        cases hq : p x with
        | true =>
          rw [hq] at C1
          have HQ3 := hid (HQ.out hq)
          clear HQ HQ2 hq
          go_wp2_with fail
          rw [← hw2]
          clear hw2
          refine C1.mono ?_
          rintro e w3 ⟨rfl, b3⟩
          have HB3 := hid (HB2.out.below b3 HB2.out.lt)
          have HO3 := hid (HO2.out.trans (Onl.of (b := b) b3 (Nat.le_refl _)))
          clear C1 b3 HB2 HO2 d1 d2 d3 d4 c1 c2 c3 c4
          go_wp2_with fail
          go_roundw
          case rel => exact ⟨i, j + 1, D, rfl, by rfl, by omega, HQ3, HB3, HO3⟩
          case measure => first | (simp [intOf]; done) | (simp [intOf]; omega)
        | false =>
          rw [hq] at C1
          have HQ3 := hid (HQ2.out hq)
          clear HQ HQ2 hq
          go_wp2_with fail
          rw [← hw2]
          clear hw2
          refine C1.mono ?_
          rintro e w3 ⟨rfl, b3⟩
          have hB3 := HB2.out.below b3 HB2.out.lt
          have hN3 := HN2.out.below b3 HN2.out.lt
          have HO3 := hid (HO2.out.trans (Onl.of (b := b) b3 (Nat.le_refl _)))
          clear C1 b3 HB2 HO2 d1 d2 d3 d4 c1 c2 c3 c4
          have d1 : w3.cell? ⟨wr.heap.size, 0, none⟩ = some (.string x.1) := by rw [hN3.cell]; rfl
          have d2 : w3.cell? ⟨wr.heap.size, 1, none⟩ = some (.string x.2.pack) := by rw [hN3.cell]; rfl
          have d3 : w3.cell? ⟨wr.heap.size, 2, none⟩ = some (.int .i64 x.2.at_) := by rw [hN3.cell]; rfl
          have d4 : w3.cell? ⟨wr.heap.size, 3, none⟩ = some (.int .i64 x.2.len) := by rw [hN3.cell]; rfl
          obtain ⟨c1, c2, c3, c4⟩ := kC_cells hB3 i HLI.out
          have f1 := hB3.frozen (i * 4)
          have f2 := hB3.frozen (i * 4 + 1)
          have f3 := hB3.frozen (i * 4 + 2)
          have f4 := hB3.frozen (i * 4 + 3)
          have HPut := hid (kC_put hB3 i HLI.out x)
          clear hB3 hN3
          go_wp2_with fail
          go_roundw
          case rel => exact ⟨i + 1, j + 1, D.set i x, by rfl, by rfl, by omega, HQ3, HPut, hid (HO3.out.trans (((Onl.set b _ _ _).trans (Onl.set b _ _ _)).trans ((Onl.set b _ _ _).trans (Onl.set b _ _ _))))⟩
          case measure => first | (simp [intOf]; done) | (simp [intOf]; omega)
      · obtain rfl : m = j := by omega
        have hij := HD.out.le
        have hdl : D.length = m := by rw [HD.out.len, HMM.out]
        have hdone := (show Dl p M D i M.length from by rw [← HMM.out]; exact HD.out).done
        obtain ⟨w2, hcl, hO2, hR2⟩ := clear_chunks (ty := 0) (c := m - i) HB.out hdl hij
        have HR2 := hid (hdone.2 ▸ hR2)
        have HO2 := hid (HO.out.trans hO2)
        have HL := hid hdone.1
        have j1 : ¬ ((m : Int) < (m : Int)) := by omega
        have i1 : (i : Int) ≤ (m : Int) := by omega
        have i0 : (0 : Int) ≤ (i : Int) := by omega
        clear hR2 hO2 hdone hdl HD HB HO
        go_wp2_with fail
        go_ret
        exact ⟨by rw [← HL.out]; rfl, HR2.out, HO2.out⟩
end Go.Proofs.YtknddbmnciodaaaGreat

