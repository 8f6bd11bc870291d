/- The contract of the document's Packs. -/
import Derived.Test.YtknddbmnciodaaaRPut
import Derived.Test.YtknddbmnciodaaaCks
import Derived.Test.YtknddbmnciodaaaRMay
import Derived.Test.YtknddbmnciodaaaPPacks
namespace Go.Proofs.Ytknddbmnciodaaa
open Go.RowKit Go.Lib Go.Sort
open Ix
set_option linter.unusedVariables false
theorem packs_to_len (M : List En) (k : Nat) : (packsOf (M.take k)).length ≤ k := by
  have := packs_len (M.take k)
  rw [List.length_take] at this; omega
set_option maxRecDepth 20000 in
set_option maxHeartbeats 8000000 in
theorem refPacks_any (s : St) (a0 a1 a2 : Option Addr) (c0 c1 c2 : Nat) (hn : s.C.length ≤ 100000) (hn2 : s.P.length ≤ 100000) (w : World) (hC : Tx w a1 s.C) (hP : Ps w a2 s.P) :
    Calls Try.prog 15 #[.agg (stV s a0 a1 a2 c0 c1 c2)] w fun e w' => ∃ v, e = .returned (.tuple #[v, .int .i64 (packsE s.C s.P)]) ∧ w'.ownsRow w.heap.size 9 1 v (packsV s.C s.P).length ((packsV s.C s.P).map Value.string) ∧ RowKit.Below w.heap.size w w' := by
  obtain ⟨w1, hw1, hB, n1⟩ := box_state (w := w) s a0 a1 a2 c0 c1 c2
  obtain ⟨b, hb⟩ : ∃ b, b = w.heap.size := ⟨_, rfl⟩
  rw [← hb] at n1
  have HN1 := hid (fun W (hW : RowKit.Below w1.heap.size w1 W) => n1.below hW n1.lt)
  have C0 := refMay_any s a0 a1 a2 c0 c1 c2 hn hn2 w1 (hC.below hB) (hP.below hB)
  have HPs := hid (hP.below hB)
  have HB := hid hB
  have k0 : w1.cell? ⟨b, 0, none⟩ = some (.int .i64 s.k) := by rw [n1.cell]; rfl
  have k1 : w1.cell? ⟨b, 1, none⟩ = some (.int .i64 s.n) := by rw [n1.cell]; rfl
  have k2 : w1.cell? ⟨b, 2, none⟩ = some (.int .i64 s.nx) := by rw [n1.cell]; rfl
  have k3 : w1.cell? ⟨b, 3, none⟩ = some (.slice a0 s.sn.length c0) := by rw [n1.cell]; rfl
  have k4 : w1.cell? ⟨b, 4, none⟩ = some (.slice a1 s.C.length c1) := by rw [n1.cell]; rfl
  have k5 : w1.cell? ⟨b, 5, none⟩ = some (.slice a2 s.P.length c2) := by rw [n1.cell]; rfl
  clear hB n1 hC hP
  change w1 = w.alloc (.cells #[.int .i64 s.k, .int .i64 s.n, .int .i64 s.nx, .slice a0 s.sn.length c0, .slice a1 s.C.length c1, .slice a2 s.P.length c2] 28) at hw1
  show Calls Try.prog 15 #[.agg #[.int .i64 s.k, .int .i64 s.n, .int .i64 s.nx, .slice a0 s.sn.length c0, .slice a1 s.C.length c1, .slice a2 s.P.length c2]] w _
  change Calls Try.prog 21 #[.agg #[.int .i64 s.k, .int .i64 s.n, .int .i64 s.nx, .slice a0 s.sn.length c0, .slice a1 s.C.length c1, .slice a2 s.P.length c2]] w1 _ at C0
  go_enter Try.func15, Try.ntmps15
  go_upto_region 1 with fail
  rw [← hw1, ← hb]
  clear hw1 hb
  go_wp2_with fail
  refine C0.mono ?_
  rintro e w2 ⟨rfl, b2⟩
  have HB2 := hid (HB.out.trans (b2.mono HB.out.size))
  have HN2 := hid (HN1.out w2 b2)
  have HP2 := hid (HPs.out.below b2)
  clear C0 b2 k0 k1 k2 k3 k4 k5 HN1 HB HPs
  cases hmay : mayS s.C s.P with
  | false =>
    have H4 : Hid (packsE s.C s.P = 4) := hid (by unfold packsE; rw [hmay]; rfl)
    have HV : Hid (packsV s.C s.P = []) := hid (by unfold packsV; rw [hmay]; rfl)
    clear hmay
    go_wp2_with fail
    exact bodyPost_ret (v := .tuple #[.slice none 0 0, .int .i64 4]) (by simp [results, Try.results15, go_sem]) rfl ⟨_, by rw [H4.out], by rw [HV.out]; exact World.ownsRow_nil _ _ _ _, HB2.out⟩
  | true =>
    have H4 : Hid (packsE s.C s.P = 0) := hid (by unfold packsE; rw [hmay]; rfl)
    have HV : Hid (packsV s.C s.P = packsOf (s.C.zip s.P)) := hid (by unfold packsV; rw [hmay]; rfl)
    have hlen := (mayS_iff.1 hmay).1
    have HL := hid hlen
    have HZ := hid (fun k (h1 : k < s.C.length) (h2 : k < s.P.length) => zip_get h1 h2)
    have HZL := hid (zip_len s.C s.P (by omega))
    clear hmay hlen
    generalize hm : s.P.length = m at *
    have HM := hid hm
    clear hm
    go_wp2_with fail
    go_loopw [4, 5] (fun v4 v5 wr => ∃ k : Nat, k ≤ m ∧ v5 = .int .i64 (k : Int) ∧ Hid (wr.ownsRow w.heap.size 9 1 v4 (packsOf ((s.C.zip s.P).take k)).length ((packsOf ((s.C.zip s.P).take k)).map Value.string)) ∧ Hid (RowKit.Below w2.heap.size w2 wr)) (fun _ v5 _ => m - (intOf v5).toNat)
    case atStart => exact ⟨0, Nat.zero_le _, rfl, hid (World.ownsRow_nil _ _ _ _), hid (RowKit.Below.refl _ _)⟩
    case round =>
      obtain ⟨k, hk, rfl, HO, HW⟩ := hrel
      have n3 := HN2.out.below HW.out HN2.out.lt
      have k5 : wr.cell? ⟨b, 5, none⟩ = some (.slice a2 m c2) := by rw [n3.cell]; unfold stV; rw [HM.out]; rfl
      clear n3
      by_cases hlt : k < m
      · have hlt1 : k < s.P.length := by rw [HM.out]; exact hlt
        obtain ⟨g, o, rfl, hg, e1, e2, e3⟩ := ps_cell HP2.out HW.out hlt1
        have hx := HZ.out k (by rw [HL.out]; exact hlt) hlt
        have HX := hid (packsTo_succ hx)
        have hpl := packs_to_len (s.C.zip s.P) k
        have j1 : (k : Int) < (m : Int) := by omega
        have j0 : (0 : Int) ≤ (k : Int) := by omega
        have wk : IntKind.i64.wrap ((k : Int) + 1) = ((k + 1 : Nat) : Int) := by rw [IntKind.wrap_i64]; omega
        obtain ⟨A, cp, hv, _, hT⟩ := own_tx HO.out
        subst hv
        have C1 := put_any (packsOf ((s.C.zip s.P).take k)) A cp (s.P.getD k default).pack (packs_rise _) (by omega) wr hT
        have HSZ := hid HW.out.size
        have HS2 := hid HB2.out.size
        generalize (packsOf ((s.C.zip s.P).take k)) = L at *
        generalize (s.P.getD k default).pack = y at *
        clear hx hT HO hlt1 hg
        go_wp2_with fail
        refine C1.mono ?_
        rintro e w4 ⟨v, rfl, hrow, b4⟩
        have HR := hid (own_mono hrow (Nat.le_trans HS2.out HSZ.out))
        have HW4 := hid (HW.out.trans (b4.mono HW.out.size))
        clear C1 hrow b4 e1 e2 e3 k5
        go_wp2_with fail
        go_roundw
        case rel => exact ⟨k + 1, by omega, by rfl, by rw [HX.out]; exact HR, HW4⟩
        case measure => first | (simp [intOf]; done) | (simp [intOf]; omega)
      · obtain rfl : m = k := by omega
        have j1 : ¬ ((m : Int) < (m : Int)) := by omega
        have HR := hid (show wr.ownsRow w.heap.size 9 1 u4 (packsOf (s.C.zip s.P)).length ((packsOf (s.C.zip s.P)).map Value.string) from by
          have := HO.out
          rwa [List.take_of_length_le (by rw [HZL.out, HL.out]; exact Nat.le_refl _)] at this)
        clear HO
        go_wp2_with fail
        exact bodyPost_ret (v := .tuple #[u4, .int .i64 0]) (by simp [results, Try.results15, go_sem]) rfl ⟨u4, by rw [H4.out], by rw [HV.out]; exact HR.out, HB2.out.trans (HW.out.mono HB2.out.size)⟩
end Go.Proofs.Ytknddbmnciodaaa
