/- The contract of the program's Add. -/
import Derived.Test.YtknddbmnciodaaaGreatAdn
import Derived.Test.YtknddbmnciodaaaGreatAppK
import Derived.Test.YtknddbmnciodaaaGreatWith
import Derived.Test.YtknddbmnciodaaaGreatApart
import Derived.Test.YtknddbmnciodaaaGreatOf
namespace Go.Proofs.YtknddbmnciodaaaGreat
open Go.RowKit Go.Lib Go.Sort
open Ix
set_option linter.unusedVariables false
section
variable {ev : Operand → Value} {o : Oper} {w w' : World} {x y : Operand} {u v v' : Value} {t : TypeId}
theorem rn_app49 (ho : o.op = .call { callee := .builtin .append, args := #[x, y], argTypes := #[57, 57] }) (hx : ev x = v) (hy : ev y = u) (ht : o.type = t) (hr : (Builtin.append_ #[57, 57] t #[v, u]).run Tryz.prog w = .ok v' w') : (execOp ev o).run Tryz.prog w = .ok (.value v') w' := by
  subst ht
  simp [execOp, ho, hx, hy, resolve, invoke, builtin, hr, Result.andThen]
end
/-- the state behind it -/
def addS (s : St) (D : List ByteArray) (Q : List Pl) : St := { s with C := (addL s.C s.P D Q).map Prod.fst, P := (addL s.C s.P D Q).map Prod.snd }
/-- what a call that gives a state comes to -/
structure Gives (w : World) (v : Array Value) (s : St) (er : Int) (W : World) : Prop where
  yes : er = 0 → NewSt w v s W
  no : er ≠ 0 → v = stZ
  below : RowKit.Below w.heap.size w W
set_option maxRecDepth 20000 in
set_option maxHeartbeats 16000000 in
theorem add_any (s : St) (a0 a1 a2 b1 b2 : Option Addr) (c0 c1 c2 d1 d2 : Nat) (D : List ByteArray) (Q : List Pl) (hn : s.C.length ≤ 100000) (hn2 : s.P.length ≤ 100000) (hn3 : s.sn.length ≤ 100000) (hm : D.length ≤ 100000) (hm2 : D.length = Q.length → Q.length ≤ 100000)
    (hr : ∀ x ∈ s.sn, x.root.size ≤ 281474976710656) (w : World) (hS : Sn w a0 s.sn) (hC : Tx w a1 s.C) (hP : Ps w a2 s.P) (hD : Tx w b1 D) (hQ : Ps w b2 Q) :
    Calls Tryz.prog 8 #[.agg (stV s a0 a1 a2 c0 c1 c2), .slice b1 D.length d1, .slice b2 Q.length d2] w fun e w' => ∃ v, e = .returned (.tuple #[.agg v, .int .i64 (addR s.C s.P D Q)]) ∧ Gives w v (addS s D Q) (addR s.C s.P D Q) w' := by
  obtain ⟨b, hb⟩ : ∃ b, b = w.heap.size := ⟨_, rfl⟩
  obtain ⟨w1, hw1⟩ : ∃ w1, w1 = (w.alloc (.cells (stV s a0 a1 a2 c0 c1 c2) 35)).alloc (.cells stZ 35) := ⟨_, rfl⟩
  have hB : RowKit.Below w.heap.size w w1 := by rw [hw1]; exact ((RowKit.Below.refl _ w).alloc (Nat.le_refl _) _).alloc (by simp) _
  have n1 : Has w1 b (stV s a0 a1 a2 c0 c1 c2) 35 := by rw [hw1]; exact (Has.new w _ _ _ hb).alloc _
  have n2 : Has w1 (b + 1) stZ 35 := by rw [hw1]; exact Has.new _ _ _ _ (by simp [hb])
  have C0 := addable_any s a0 a1 a2 b1 b2 c0 c1 c2 d1 d2 D Q hn hn2 hm hm2 w1 (hC.below hB) (hP.below hB) (hD.below hB) (hQ.below hB)
  have HS := hid (fun W (hW : RowKit.Below w.heap.size w W) => hS.below hW)
  have HC := hid (fun W (hW : RowKit.Below w.heap.size w W) => hC.below hW)
  have HP := hid (fun W (hW : RowKit.Below w.heap.size w W) => hP.below hW)
  have HD := hid (fun W (hW : RowKit.Below w.heap.size w W) => hD.below hW)
  have HQ := hid (fun W (hW : RowKit.Below w.heap.size w W) => hQ.below hW)
  have HB := hid hB
  have HBW := hid hb
  have HN2 := hid n2
  have HR := hid hr
  have HK := hid (fun W (hW : Has W b (stV s a0 a1 a2 c0 c1 c2) 35) => (show (W.cell? ⟨b, 0, none⟩ = some (.int .i64 s.k) ∧ W.cell? ⟨b, 1, none⟩ = some (.int .i64 s.n) ∧ W.cell? ⟨b, 2, none⟩ = some (.int .i64 s.nx) ∧ W.cell? ⟨b, 3, none⟩ = some (.slice a0 s.sn.length c0) ∧ W.cell? ⟨b, 4, none⟩ = some (.slice a1 s.C.length c1) ∧ W.cell? ⟨b, 5, none⟩ = some (.slice a2 s.P.length c2)) from
    ⟨by rw [hW.cell]; rfl, by rw [hW.cell]; rfl, by rw [hW.cell]; rfl, by rw [hW.cell]; rfl, by rw [hW.cell]; rfl, by rw [hW.cell]; rfl⟩))
  obtain ⟨k0, k1, k2, k3, k4, k5⟩ := HK.out w1 n1
  have HN1 := hid n1
  clear hB n1 n2 hC hP hS hD hQ hr
  change w1 = (w.alloc (.cells #[.int .i64 s.k, .int .i64 s.n, .int .i64 s.nx, .slice a0 s.sn.length c0, .slice a1 s.C.length c1, .slice a2 s.P.length c2] 35)).alloc (.cells #[.int .i64 0, .int .i64 0, .int .i64 0, .slice none 0 0, .slice none 0 0, .slice none 0 0] 35) at hw1
  show Calls Tryz.prog 8 #[.agg #[.int .i64 s.k, .int .i64 s.n, .int .i64 s.nx, .slice a0 s.sn.length c0, .slice a1 s.C.length c1, .slice a2 s.P.length c2], .slice b1 D.length d1, .slice b2 Q.length d2] w _
  change Calls Tryz.prog 20 #[.agg #[.int .i64 s.k, .int .i64 s.n, .int .i64 s.nx, .slice a0 s.sn.length c0, .slice a1 s.C.length c1, .slice a2 s.P.length c2], _, _] w1 _ at C0
  go_enter Tryz.func8, Tryz.ntmps8
  go_upto_region 1 with fail
  rw [← hw1, ← hb]
  clear hw1 hb
  go_wp2_with fail
  refine C0.mono ?_
  rintro e w2 ⟨rfl, b2⟩
  have HB2 := hid (HB.out.trans (b2.mono HB.out.size))
  have N1 := hid (HN1.out.below b2 HN1.out.lt)
  have N2 := hid (HN2.out.below b2 HN2.out.lt)
  clear C0 b2 k0 k1 k2 k3 k4 k5 HN1 HN2 HB
  by_cases h0 : adE s.C s.P D Q = 0
  · have HA := hid (adE_ok h0)
    have q0 : (adE s.C s.P D Q == 0) = true := by rw [h0]; rfl
    have H0 : Hid (addR s.C s.P D Q = if comN ((addL s.C s.P D Q).map Prod.snd) (addL s.C s.P D Q).length = true then 1 else 0) := hid (by unfold addR; rw [if_pos h0])
    have hlC := HA.out.l1
    have hlD := HA.out.l2
    have hzC : (s.C.zip s.P).length = s.C.length := zip_len _ _ (by omega)
    have hzD : (D.zip Q).length = D.length := zip_len _ _ (by omega)
    have C2 := chunksOf_any s.C s.P a1 a2 c1 c2 (by omega) hn w2 (HC.out w2 HB2.out) (HP.out w2 HB2.out)
    obtain ⟨k0, k1, k2, k3, k4, k5⟩ := HK.out w2 N1.out
    have HZC := hid hzC
    have HZD := hid hzD
    clear hzC hzD hlC hlD
    go_wp2_with fail
    refine C2.mono ?_
    rintro e w3 ⟨rfl, hk3, b3⟩
    have HB3 := hid (HB2.out.trans (b3.mono HB2.out.size))
    have N1' := hid (N1.out.below b3 N1.out.lt)
    have N2' := hid (N2.out.below b3 N2.out.lt)
    obtain ⟨q, hq⟩ : ∃ q, q = w2.heap.size := ⟨_, rfl⟩
    rw [← hq] at hk3
    clear C2 k0 k1 k2 k3 k4 k5 N1 N2 b3 HB2
    have C3 := chunksOf_any D Q b1 b2 d1 d2 (by have := HA.out.l2; omega) hm w3 (HD.out w3 HB3.out) (HQ.out w3 HB3.out)
    have HK3 := hid hk3
    clear hk3
    go_wp2_with fail
    rw [← hq]
    clear hq
    refine C3.mono ?_
    rintro e w4 ⟨rfl, hk4, b4⟩
    have HB4 := hid (HB3.out.trans (b4.mono HB3.out.size))
    have N1 := hid (N1'.out.below b4 N1'.out.lt)
    have N2 := hid (N2'.out.below b4 N2'.out.lt)
    have hA : ∀ ty, ∃ b c w', (Builtin.append_ #[57, 57] ty #[.slice (some ⟨q, 0, none⟩) s.C.length s.C.length, .slice (some ⟨w3.heap.size, 0, none⟩) D.length D.length]).run Tryz.prog w4 = .ok (.slice (some ⟨b, 0, none⟩) (s.C.length + D.length) c) w' ∧ w4.heap.size ≤ b ∧ b < w'.heap.size ∧ Rw ck4 4 w' b (s.C.zip s.P ++ D.zip Q) ∧ RowKit.Below w4.heap.size w4 w' := fun ty => by
      have := app_chunks ty (s.C.zip s.P) (D.zip Q) q w3.heap.size w4 (by rw [HZC.out]; exact hn) (by rw [HZD.out]; exact hm) (by rw [HZD.out]; exact HA.out.pos) (HK3.out.below b4 HK3.out.lt) hk4
      rw [HZC.out, HZD.out] at this
      exact this
    obtain ⟨b5, c5, w5, hr5, hg5, hl5, hw5, bb5⟩ := hA 57
    have HB5 := hid (HB4.out.trans (bb5.mono HB4.out.size))
    have N1' := hid (N1.out.below bb5 N1.out.lt)
    have N2' := hid (N2.out.below bb5 N2.out.lt)
    have eg : ∀ args w, (callFunc 23 args).run Tryz.prog w = .ok (.enter 23 args) w := enters_of Tryz.func23 (by kernel_rfl) rfl
    have hll : (s.C.zip s.P ++ D.zip Q).length = s.C.length + D.length := by rw [List.length_append, HZC.out, HZD.out]
    have C5 := sortC_any 23 cfD (fun x y => lt x.1 y.1) ltD swoD eg add1_any (s.C.zip s.P ++ D.zip Q) b5 c5 (by rw [hll]; have := HA.out.most; omega) w5 hl5 hw5
    rw [hll] at C5
    have HG5 : Hid (w.heap.size + 2 ≤ b5) := hid (by have := N2.out.lt; have := HBW.out; omega)
    have HL5 := hid hl5
    have HLL := hid hll
    clear C3 hA N1 N2 b4 hk4 HK3 HB3 HB4 bb5 hg5 hl5 hw5 eg hll
    go_wp2_with (at_builtin; go_loud (refine wpList_val rfl (rn_app49 rfl rfl rfl rfl hr5) ?_))
    refine C5.mono ?_
    rintro e w6 ⟨rfl, ⟨M, hp, hs, hr6, hl6⟩, o6⟩
    have hML : M = addL s.C s.P D Q := sorted_adds HA.out.may.rise HA.out.fresh hp hs
    have hlen : M.length = s.C.length + D.length := by rw [hML]; exact HA.out.len
    have hcom : (M.map Prod.snd).length = M.length := by simp
    have HSZ : Hid (∀ e ∈ M, e.1.size ≤ 1000000 ∧ e.2.pack.size ≤ 1000000) := hid (fun e he => by
      rw [hML] at he
      have := HA.out.mem e he
      exact ⟨by omega, by have := this.2.1; omega⟩)
    have HMP : Hid (∀ p ∈ M.map Prod.snd, mayP p) := hid (fun p hp => by
      obtain ⟨e, he, rfl⟩ := List.mem_map.1 hp
      rw [hML] at he
      exact (HA.out.mem e he).2)
    have hMM : M.length ≤ 400 := by rw [hlen]; exact HA.out.most
    have HSV : Hid (addS s D Q = { s with C := M.map Prod.fst, P := M.map Prod.snd }) := hid (by rw [hML]; rfl)
    rw [← hML] at H0
    have hb6 := o6.below (B := w.heap.size + 2) (by have := HG5.out; omega) (by have := N1'.out.lt; have := N2'.out.lt; have := HBW.out; omega)
    have HB6 := hid (HB5.out.trans (hb6.mono (by omega)))
    have N1 := hid (N1'.out.below hb6 (by have := HBW.out; omega))
    have N2 := hid (N2'.out.below hb6 (by have := HBW.out; omega))
    have C6 := with_any s M a0 a1 a2 (some ⟨b5, 0, none⟩) c0 c1 c2 c5 (by omega) hn3 HSZ.out HR.out w6 (HS.out w6 HB6.out) (rw_ks hl6 hr6)
    unfold stV at C6
    rw [hlen] at C6
    have HLM := hid hlen
    clear C5 hp hs hr6 hl6 o6 hML hcom hb6 N1' N2' hlen HA hr5 HLL HL5 HZC HZD
    obtain ⟨k0, k1, k2, k3, k4, k5⟩ := HK.out w6 N1.out
    clear HC HP HD HQ HS
    go_wp2_with fail
    refine C6.mono ?_
    rintro e w7 ⟨v7, rfl, hnew⟩
    obtain ⟨g0, g1, g2, hv7, hg0, hg1, hg2, hh0, hh1, hh2⟩ := hnew.rows
    have HB7 := hid (HB6.out.trans (hnew.below.mono HB6.out.size))
    have N2' := hid (N2.out.below hnew.below N2.out.lt)
    have HGG : Hid (w.heap.size + 2 ≤ g0 ∧ w.heap.size + 2 ≤ g1 ∧ w.heap.size + 2 ≤ g2) := hid (by
      have h1 := N2.out.lt
      have h2 := HBW.out
      omega)
    have hv8 : v7 = #[.int .i64 s.k, .int .i64 s.n, .int .i64 s.nx, .slice (some ⟨g0, 0, none⟩) s.sn.length s.sn.length, .slice (some ⟨g1, 0, none⟩) M.length M.length, .slice (some ⟨g2, 0, none⟩) M.length M.length] := by
      rw [hv7]; simp [stV]
    clear hv7
    subst hv8
    obtain ⟨z, hz⟩ : ∃ z, z = w7.heap.size := ⟨_, rfl⟩
    obtain ⟨w8, hw8⟩ : ∃ w8, w8 = w7.alloc (.cells #[.int .i64 s.k, .int .i64 s.n, .int .i64 s.nx, .slice (some ⟨g0, 0, none⟩) s.sn.length s.sn.length, .slice (some ⟨g1, 0, none⟩) M.length M.length, .slice (some ⟨g2, 0, none⟩) M.length M.length] 35) := ⟨_, rfl⟩
    have hb8 : RowKit.Below w7.heap.size w7 w8 := by
      rw [hw8]
      exact (RowKit.Below.refl _ w7).alloc (Nat.le_refl _) _
    have nz : Has w8 z #[.int .i64 s.k, .int .i64 s.n, .int .i64 s.nx, .slice (some ⟨g0, 0, none⟩) s.sn.length s.sn.length, .slice (some ⟨g1, 0, none⟩) M.length M.length, .slice (some ⟨g2, 0, none⟩) M.length M.length] 35 := by
      rw [hw8]
      exact Has.new w7 _ _ _ hz
    have HZ := hid nz
    have HB8 := hid (HB7.out.trans (hb8.mono HB7.out.size))
    have N2 := hid (N2'.out.below hb8 N2'.out.lt)
    have HH0 := hid (hh0.below hb8 hh0.lt)
    have HH1 := hid (hh1.below hb8 hh1.lt)
    have HH2 := hid (hh2.below hb8 hh2.lt)
    have HZB : Hid (b + 1 < z ∧ g0 < z ∧ g1 < z ∧ g2 < z) := hid ⟨by rw [hz]; exact N2'.out.lt, by rw [hz]; exact hh0.lt, by rw [hz]; exact hh1.lt, by rw [hz]; exact hh2.lt⟩
    clear C6 hnew hh0 hh1 hh2 hb8 nz N2' k0 k1 k2 k3 k4 k5 HB6 HB7 N1 hg0 hg1 hg2
    have C7 := apart_any (M.map Prod.snd) (some ⟨g2, 0, none⟩) M.length (by rw [List.length_map]; omega) HMP.out w8 (has_ps HH2.out)
    rw [List.length_map] at C7
    have t4 : w8.cell? ⟨z, 5, none⟩ = some (.slice (some ⟨g2, 0, none⟩) M.length M.length) := by rw [HZ.out.cell]; rfl
    clear HSZ HMP
    go_upto_region 7 with fail
    rw [← hw8, ← hz]
    clear hw8 hz
    generalize comN (M.map Prod.snd) M.length = cb at *
    go_wp2_with fail
    refine C7.mono ?_
    rintro e w9 ⟨rfl, b9⟩
    have HB9 := hid (HB8.out.trans (b9.mono HB8.out.size))
    have HZ9 := hid (HZ.out.below b9 HZ.out.lt)
    have N2' := hid (N2.out.below b9 N2.out.lt)
    have HH0' := hid (HH0.out.below b9 HH0.out.lt)
    have HH1' := hid (HH1.out.below b9 HH1.out.lt)
    have HH2' := hid (HH2.out.below b9 HH2.out.lt)
    clear C7 b9 t4 HZ N2 HH0 HH1 HH2 HB8
    have f0 := N2'.out.frozen 0
    have f1 := N2'.out.frozen 1
    have f2 := N2'.out.frozen 2
    have f3 := N2'.out.frozen 3
    have f4 := N2'.out.frozen 4
    have f5 := N2'.out.frozen 5
    have l0 : w9.cell? ⟨b + 1, 0, none⟩ = some (.int .i64 0) := by rw [N2'.out.cell]; rfl
    have l1 : w9.cell? ⟨b + 1, 1, none⟩ = some (.int .i64 0) := by rw [N2'.out.cell]; rfl
    have l2 : w9.cell? ⟨b + 1, 2, none⟩ = some (.int .i64 0) := by rw [N2'.out.cell]; rfl
    have l3 : w9.cell? ⟨b + 1, 3, none⟩ = some (.slice none 0 0) := by rw [N2'.out.cell]; rfl
    have l4 : w9.cell? ⟨b + 1, 4, none⟩ = some (.slice none 0 0) := by rw [N2'.out.cell]; rfl
    have l5 : w9.cell? ⟨b + 1, 5, none⟩ = some (.slice none 0 0) := by rw [N2'.out.cell]; rfl
    cases cb with
    | true =>
      go_wp2_with fail
      have hp6 := put6 N2'.out (.int .i64 0) (.int .i64 0) (.int .i64 0) (.slice none 0 0) (.slice none 0 0) (.slice none 0 0)
      exact ret_state Tryz.results8 rfl rfl rfl hp6 rfl ⟨_, by rw [H0.out]; rfl, fun h => by rw [H0.out] at h; simp at h, fun _ => rfl, below_put6 HB9.out (by have := HBW.out; omega) _ _ _ _ _ _⟩
    | false =>
      have y0 : w9.cell? ⟨z, 0, none⟩ = some (.int .i64 s.k) := by rw [HZ9.out.cell]; rfl
      have y1 : w9.cell? ⟨z, 1, none⟩ = some (.int .i64 s.n) := by rw [HZ9.out.cell]; rfl
      have y2 : w9.cell? ⟨z, 2, none⟩ = some (.int .i64 s.nx) := by rw [HZ9.out.cell]; rfl
      have y3 : w9.cell? ⟨z, 3, none⟩ = some (.slice (some ⟨g0, 0, none⟩) s.sn.length s.sn.length) := by rw [HZ9.out.cell]; rfl
      have y4 : w9.cell? ⟨z, 4, none⟩ = some (.slice (some ⟨g1, 0, none⟩) M.length M.length) := by rw [HZ9.out.cell]; rfl
      have y5 : w9.cell? ⟨z, 5, none⟩ = some (.slice (some ⟨g2, 0, none⟩) M.length M.length) := by rw [HZ9.out.cell]; rfl
      go_wp2_with fail
      have hp6 := put6 N2'.out (.int .i64 s.k) (.int .i64 s.n) (.int .i64 s.nx) (.slice (some ⟨g0, 0, none⟩) s.sn.length s.sn.length) (.slice (some ⟨g1, 0, none⟩) M.length M.length) (.slice (some ⟨g2, 0, none⟩) M.length M.length)
      have hbn := below_put6 HB9.out (by have := HBW.out; omega : w.heap.size ≤ b + 1) (.int .i64 s.k) (.int .i64 s.n) (.int .i64 s.nx) (.slice (some ⟨g0, 0, none⟩) s.sn.length s.sn.length) (.slice (some ⟨g1, 0, none⟩) M.length M.length) (.slice (some ⟨g2, 0, none⟩) M.length M.length)
      have oth : ∀ {g : Nat} {cs : Array Value} {t : TypeId}, w.heap.size + 2 ≤ g → Has w9 g cs t → Has ((((((w9.setCell ⟨b + 1, 0, none⟩ (.int .i64 s.k)).setCell ⟨b + 1, 1, none⟩ (.int .i64 s.n)).setCell ⟨b + 1, 2, none⟩ (.int .i64 s.nx)).setCell ⟨b + 1, 3, none⟩ (.slice (some ⟨g0, 0, none⟩) s.sn.length s.sn.length)).setCell ⟨b + 1, 4, none⟩ (.slice (some ⟨g1, 0, none⟩) M.length M.length)).setCell ⟨b + 1, 5, none⟩ (.slice (some ⟨g2, 0, none⟩) M.length M.length)) g cs t := fun {g cs t} hg h => by
        have ne : g ≠ b + 1 := by have := HBW.out; omega
        exact (((((h.other _ _ ne).other _ _ ne).other _ _ ne).other _ _ ne).other _ _ ne).other _ _ ne
      refine ret_state Tryz.results8 rfl rfl rfl hp6 rfl ⟨_, by rw [H0.out]; rfl, fun _ => ?_, fun h => by rw [H0.out] at h; simp at h, hbn⟩
      rw [HSV.out]
      exact ⟨⟨g0, g1, g2, by simp [stV], by have := HGG.out; omega, by have := HGG.out; omega, by have := HGG.out; omega, oth HGG.out.1 HH0'.out, oth HGG.out.2.1 HH1'.out, oth HGG.out.2.2 HH2'.out⟩, hbn⟩
  · have q0 : (adE s.C s.P D Q == 0) = false := by rw [beq_eq_false_iff_ne]; exact h0
    have HE : Hid (addR s.C s.P D Q = adE s.C s.P D Q) := hid (by unfold addR; rw [if_neg h0])
    have HE0 := hid h0
    generalize adE s.C s.P D Q = er at *
    have f0 := N2.out.frozen 0
    have f1 := N2.out.frozen 1
    have f2 := N2.out.frozen 2
    have f3 := N2.out.frozen 3
    have f4 := N2.out.frozen 4
    have f5 := N2.out.frozen 5
    have l0 : w2.cell? ⟨b + 1, 0, none⟩ = some (.int .i64 0) := by rw [N2.out.cell]; rfl
    have l1 : w2.cell? ⟨b + 1, 1, none⟩ = some (.int .i64 0) := by rw [N2.out.cell]; rfl
    have l2 : w2.cell? ⟨b + 1, 2, none⟩ = some (.int .i64 0) := by rw [N2.out.cell]; rfl
    have l3 : w2.cell? ⟨b + 1, 3, none⟩ = some (.slice none 0 0) := by rw [N2.out.cell]; rfl
    have l4 : w2.cell? ⟨b + 1, 4, none⟩ = some (.slice none 0 0) := by rw [N2.out.cell]; rfl
    have l5 : w2.cell? ⟨b + 1, 5, none⟩ = some (.slice none 0 0) := by rw [N2.out.cell]; rfl
    go_wp2_with fail
    have hp6 := put6 N2.out (.int .i64 0) (.int .i64 0) (.int .i64 0) (.slice none 0 0) (.slice none 0 0) (.slice none 0 0)
    exact ret_state Tryz.results8 rfl rfl rfl hp6 rfl ⟨_, by rw [HE.out]; rfl, fun h => absurd (HE.out ▸ h) HE0.out, fun _ => rfl, below_put6 HB2.out (by have := HBW.out; omega) _ _ _ _ _ _⟩
end Go.Proofs.YtknddbmnciodaaaGreat

