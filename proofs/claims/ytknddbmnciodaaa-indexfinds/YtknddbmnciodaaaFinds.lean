/- The walk of the statement IndexFinds. -/
import Derived.Test.YtknddbmnciodaaaLaws
import Derived.Test.YtknddbmnciodaaaOps2
import Derived.Test.YtknddbmnciodaaaRFind
import Derived.Test.YtknddbmnciodaaaRPacks
import Derived.Test.YtknddbmnciodaaaROf
namespace Go.Proofs.Ytknddbmnciodaaa
open Go.RowKit Go.Lib Go.Sort
open Ix
set_option linter.unusedVariables false
section
variable {ev : Operand → Value} {o : Oper} {w : World} {x y : Operand}
theorem rn_eql37 {p : Pl} (ho : o.op = .binOp .eql 37 x y 37) (hx : ev x = .agg #[.string p.pack, .int .i64 p.at_, .int .i64 p.len]) (hy : ev y = .agg #[.string p.pack, .int .i64 p.at_, .int .i64 p.len]) : (execOp ev o).run Try.prog w = .ok (.value (.bool true)) w := by
  have h := eql37 w p
  change (binOp .eql 37 (.agg #[.string p.pack, .int .i64 p.at_, .int .i64 p.len]) (.agg #[.string p.pack, .int .i64 p.at_, .int .i64 p.len])).run Try.prog w = _ at h
  have hg : (eqGuard .eql 37 x y (.agg #[.string p.pack, .int .i64 p.at_, .int .i64 p.len]) (.agg #[.string p.pack, .int .i64 p.at_, .int .i64 p.len])).run Try.prog w = .ok () w := run_eqGuard_agg w .eql 37 x y _ _ (by kernel_rfl)
  simp [execOp, ho, hx, hy, h, hg, Result.andThen]
theorem rn_eql31 {u v : Int} {c : Bool} (ho : o.op = .binOp .eql 31 x y 31) (hx : ev x = .int .i64 u) (hy : ev y = .int .i64 v) (hc : (u == v) = c) : (execOp ev o).run Try.prog w = .ok (.value (.bool c)) w := by
  subst hc; simp [execOp, ho, hx, hy, go_sem]
theorem rn_eql4 {u v : Bool} {c : Bool} (ho : o.op = .binOp .eql 4 x y 4) (hx : ev x = .bool u) (hy : ev y = .bool v) (hc : (u == v) = c) : (execOp ev o).run Try.prog w = .ok (.value (.bool c)) w := by
  subst hc; simp [execOp, ho, hx, hy, go_sem]
theorem rn_load28 {g k : Nat} {u0 u1 u2 u3 u4 u5 : Value} (ho : o.op = .load 28 x) (hx : ev x = .pointer (some ⟨g, k, none⟩)) (h0 : w.cell? ⟨g, k, none⟩ = some u0) (h1 : w.cell? ⟨g, k + 1, none⟩ = some u1) (h2 : w.cell? ⟨g, k + 2, none⟩ = some u2) (h3 : w.cell? ⟨g, k + 3, none⟩ = some u3) (h4 : w.cell? ⟨g, k + 4, none⟩ = some u4) (h5 : w.cell? ⟨g, k + 5, none⟩ = some u5) : (execOp ev o).run Try.prog w = .ok (.value (.agg #[u0, u1, u2, u3, u4, u5])) w := by
  simp [execOp, ho, hx, go_sem, h0, h1, h2, h3, h4, h5]
theorem en18 (args : Array Value) (w : World) : (callFunc 18 args).run Try.prog w = .ok (.enter 18 args) w := by kernel_rfl
theorem en19 (args : Array Value) (w : World) : (callFunc 19 args).run Try.prog w = .ok (.enter 19 args) w := by kernel_rfl
theorem en20 (args : Array Value) (w : World) : (callFunc 20 args).run Try.prog w = .ok (.enter 20 args) w := by kernel_rfl
theorem en21 (args : Array Value) (w : World) : (callFunc 21 args).run Try.prog w = .ok (.enter 21 args) w := by kernel_rfl
end
def fdV (fv : Pl) (fe pe oe sk sn sx : Int) (np no n0 n1 n2 c0 c1 c2 d1 d2 d3 d4 d5 d6 : Nat) (a0 a1 a2 A1 A2 A3 A4 A5 A6 : Option Addr) (mz : Bool) : Nat → Value
  | 57 => .agg #[.string fv.pack, .int .i64 fv.at_, .int .i64 fv.len]
  | 58 => .agg #[.string fv.pack, .int .i64 fv.at_, .int .i64 fv.len]
  | 59 => .bool true
  | 60 => .bool true
  | 61 => .int .i64 fe
  | 62 => .int .i64 fe
  | 63 => .bool true
  | 64 => .bool true
  | 65 => .bool true
  | 66 => .slice A1 np d1
  | 67 => .slice A2 np d2
  | 68 => .bool true
  | 69 => .bool true
  | 70 => .bool true
  | 71 => .int .i64 pe
  | 72 => .int .i64 pe
  | 73 => .bool true
  | 74 => .bool true
  | 75 => .bool true
  | 76 => .slice A3 no d3
  | 77 => .slice A5 no d5
  | 78 => .bool true
  | 79 => .bool true
  | 80 => .bool true
  | 81 => .slice A4 no d4
  | 82 => .slice A6 no d6
  | 83 => .bool true
  | 84 => .bool true
  | 85 => .bool true
  | 86 => .int .i64 oe
  | 87 => .int .i64 oe
  | 88 => .bool true
  | 89 => .bool true
  | 90 => .bool true
  | 91 => .agg #[.int .i64 sk, .int .i64 sn, .int .i64 sx, .slice a0 n0 c0, .slice a1 n1 c1, .slice a2 n2 c2]
  | 92 => .bool mz
  | 93 => .agg #[.int .i64 sk, .int .i64 sn, .int .i64 sx, .slice a0 n0 c0, .slice a1 n1 c1, .slice a2 n2 c2]
  | 94 => .bool mz
  | 95 => .bool true
  | 96 => .bool true
  | _ => undef
def fdF (fv : Pl) (fe pe oe sk sn sx : Int) (np no n0 n1 n2 c0 c1 c2 d1 d2 d3 d4 d5 d6 : Nat) (a0 a1 a2 A1 A2 A3 A4 A5 A6 : Option Addr) (mz : Bool) (d : Nat) (v : Value) (_ : World) : Prop := v = fdV fv fe pe oe sk sn sx np no n0 n1 n2 c0 c1 c2 d1 d2 d3 d4 d5 d6 a0 a1 a2 A1 A2 A3 A4 A5 A6 mz d
set_option maxRecDepth 20000 in
set_option maxHeartbeats 16000000 in
theorem finds_walk (s : St) (a0 a1 a2 : Option Addr) (c0 c1 c2 : Nat) (p : ByteArray) (hn : s.C.length ≤ 4611686018427387903) (hn2 : s.P.length ≤ 4611686018427387903) (w : World) (hC : Tx w a1 s.C) (hP : Ps w a2 s.P) :
    Calls Try.prog 4 #[.agg (stV s a0 a1 a2 c0 c1 c2), .string p] w fun e w' => e = .returned (.bool true) ∧ RowKit.Below w.heap.size w w' := by
  obtain ⟨w1, hw1, hB, n1⟩ := box_state (w := w) s a0 a1 a2 c0 c1 c2
  obtain ⟨b, hb⟩ : ∃ b, b = w.heap.size := ⟨_, rfl⟩
  rw [← hb] at n1
  have C0 := large_any s a0 a1 a2 c0 c1 c2 (by omega) (by omega) (by omega) w1
  have HC := hid (hC.below hB)
  have HP := hid (hP.below hB)
  have HB := hid hB
  have HN := hid n1
  have HBW := hid hb
  have HK := hid (fun W (hW : RowKit.Below w1.heap.size w1 W) => (show (W.cell? ⟨b, 0, none⟩ = some (.int .i64 s.k) ∧ W.cell? ⟨b, 1, none⟩ = some (.int .i64 s.n) ∧ W.cell? ⟨b, 2, none⟩ = some (.int .i64 s.nx) ∧ W.cell? ⟨b, 3, none⟩ = some (.slice a0 s.sn.length c0) ∧ W.cell? ⟨b, 4, none⟩ = some (.slice a1 s.C.length c1) ∧ W.cell? ⟨b, 5, none⟩ = some (.slice a2 s.P.length c2)) from by
    have m1 := n1.below hW n1.lt
    exact ⟨by rw [m1.cell]; rfl, by rw [m1.cell]; rfl, by rw [m1.cell]; rfl, by rw [m1.cell]; rfl, by rw [m1.cell]; rfl, by rw [m1.cell]; rfl⟩))
  clear hB n1 hC hP
  change w1 = w.alloc (.cells #[.int .i64 s.k, .int .i64 s.n, .int .i64 s.nx, .slice a0 s.sn.length c0, .slice a1 s.C.length c1, .slice a2 s.P.length c2] 28) at hw1
  show Calls Try.prog 4 #[.agg #[.int .i64 s.k, .int .i64 s.n, .int .i64 s.nx, .slice a0 s.sn.length c0, .slice a1 s.C.length c1, .slice a2 s.P.length c2], .string p] w _
  change Calls Try.prog 5 #[.agg #[.int .i64 s.k, .int .i64 s.n, .int .i64 s.nx, .slice a0 s.sn.length c0, .slice a1 s.C.length c1, .slice a2 s.P.length c2]] w1 _ at C0
  obtain ⟨k0, k1, k2, k3, k4, k5⟩ := HK.out w1 (RowKit.Below.refl _ _)
  go_enter Try.func4, Try.ntmps4
  go_upto_region 1 with fail
  rw [← hw1, ← hb]
  clear hw1 hb
  go_wp2_with fail
  refine C0.mono ?_
  rintro e w2 ⟨rfl, b2⟩
  have B2 := hid b2
  have HB2 := hid (HB.out.trans (b2.mono HB.out.size))
  clear C0 b2 k0 k1 k2 k3 k4 k5
  cases hlg : largeB s with
  | true =>
    go_wp2_with fail
    go_ret
    exact ⟨rfl, HB2.out⟩
  | false =>
    have hsz : s.C.length + s.P.length ≤ 2000 := by
      unfold largeB at hlg
      rw [Bool.or_eq_false_iff, decide_eq_false_iff_not] at hlg
      omega
    have hz1 : s.C.length ≤ 100000 := by omega
    have hz2 : s.P.length ≤ 100000 := by omega
    have HF1 := hid (fun W (hW : RowKit.Below w1.heap.size w1 W) => find_any s a0 a1 a2 c0 c1 c2 p hz1 hz2 W (HC.out.below hW) (HP.out.below hW))
    have HF2 := hid (fun W (hW : RowKit.Below w1.heap.size w1 W) => refFind_any s a0 a1 a2 c0 c1 c2 p hz1 hz2 W (HC.out.below hW) (HP.out.below hW))
    have HF3 := hid (fun W (hW : RowKit.Below w1.heap.size w1 W) => packs_any s a0 a1 a2 c0 c1 c2 hz1 hz2 W (HC.out.below hW) (HP.out.below hW))
    have HF4 := hid (fun W (hW : RowKit.Below w1.heap.size w1 W) => refPacks_any s a0 a1 a2 c0 c1 c2 hz1 hz2 W (HC.out.below hW) (HP.out.below hW))
    have HF5 := hid (fun W (hW : RowKit.Below w1.heap.size w1 W) => of_any s a0 a1 a2 c0 c1 c2 p hz1 hz2 W (HC.out.below hW) (HP.out.below hW))
    have HF6 := hid (fun W (hW : RowKit.Below w1.heap.size w1 W) => refOf_any s a0 a1 a2 c0 c1 c2 p hz1 hz2 W (HC.out.below hW) (HP.out.below hW))
    have HF7 := hid (fun W (hW : RowKit.Below w1.heap.size w1 W) => may_any s a0 a1 a2 c0 c1 c2 hz1 hz2 W (HC.out.below hW) (HP.out.below hW))
    have HF8 := hid (fun W (hW : RowKit.Below w1.heap.size w1 W) => refMay_any s a0 a1 a2 c0 c1 c2 hz1 hz2 W (HC.out.below hW) (HP.out.below hW))
    unfold stV at HF1 HF2 HF3 HF4 HF5 HF6 HF7 HF8
    have HQ1 : Hid ((packsV s.C s.P).length ≤ 100000) := hid (by have := packsV_len s.C s.P; omega)
    have HQ2 : Hid ((ofV s.C s.P p).length ≤ 100000) := hid (by
      unfold ofV
      by_cases h : mayS s.C s.P = true
      · rw [if_pos h, (ofs_is (mayS_iff.1 h).2 p).2.2]
        have h1 := List.length_filter_le (fun e : En => decide (e.2.pack = p)) (s.C.zip s.P)
        have h2 := (mayS_iff.1 h).2.most
        unfold inPack; omega
      · rw [if_neg h]; simp)
    clear hlg hsz hz1 hz2 HC HP
    obtain ⟨k0, k1, k2, k3, k4, k5⟩ := HK.out w2 B2.out
    have C1 := HF1.out w2 B2.out
    have C2 := HF2
    clear HF1
    generalize hfv : (findV s.C s.P p).1 = fv at *
    generalize hfe : (findV s.C s.P p).2 = fe at *
    clear hfv hfe
    generalize packsV s.C s.P = pv at *
    generalize packsE s.C s.P = pe at *
    generalize ofV s.C s.P p = ov at *
    generalize ofE s.C s.P p = oe at *
    generalize mayS s.C s.P = mz at *
    change Calls _ _ _ _ fun e w' => e = .returned (.tuple #[.agg #[.string fv.pack, .int .i64 fv.at_, .int .i64 fv.len], .int .i64 fe]) ∧ _ at C1
    go_wp2_with fail
    refine C1.mono ?_
    rintro e w3 ⟨rfl, b3⟩
    have B3 := hid (B2.out.trans (b3.mono B2.out.size))
    have HB3 := hid (HB2.out.trans (b3.mono HB2.out.size))
    clear C1 b3 k0 k1 k2 k3 k4 k5 B2 HB2
    obtain ⟨q5, hq5⟩ : ∃ q, q = w3.heap.size := ⟨_, rfl⟩
    obtain ⟨x3, hx3⟩ : ∃ x3, x3 = w3.alloc (.cells #[.string fv.pack, .int .i64 fv.at_, .int .i64 fv.len] 37) := ⟨_, rfl⟩
    have hbx : RowKit.Below w3.heap.size w3 x3 := by rw [hx3]; exact (RowKit.Below.refl _ _).alloc (Nat.le_refl _) _
    have N5 := hid (show Has x3 q5 #[.string fv.pack, .int .i64 fv.at_, .int .i64 fv.len] 37 from by rw [hx3]; exact Has.new _ _ _ _ hq5)
    have BX3 := hid (B3.out.trans (hbx.mono B3.out.size))
    have HBX3 := hid (HB3.out.trans (hbx.mono HB3.out.size))
    clear hbx B3 HB3
    obtain ⟨k0, k1, k2, k3, k4, k5⟩ := HK.out x3 BX3.out
    have C1 := HF2.out x3 BX3.out
    change Calls _ _ _ _ fun e w' => e = .returned (.tuple #[.agg #[.string fv.pack, .int .i64 fv.at_, .int .i64 fv.len], .int .i64 fe]) ∧ _ at C1
    clear HF2
    go_upto_region 4 with fail
    rw [← hx3, ← hq5]
    clear hx3 hq5
    go_wp2_with fail
    refine C1.mono ?_
    rintro e w4 ⟨rfl, b4⟩
    have B4 := hid (BX3.out.trans (b4.mono BX3.out.size))
    have HB4 := hid (HBX3.out.trans (b4.mono HBX3.out.size))
    have N5' := hid (N5.out.below b4 N5.out.lt)
    clear C1 b4 k0 k1 k2 k3 k4 k5 BX3 HBX3 N5
    obtain ⟨q7, hq7⟩ : ∃ q, q = w4.heap.size := ⟨_, rfl⟩
    obtain ⟨x4, hx4⟩ : ∃ x4, x4 = w4.alloc (.cells #[.string fv.pack, .int .i64 fv.at_, .int .i64 fv.len] 37) := ⟨_, rfl⟩
    have hbx : RowKit.Below w4.heap.size w4 x4 := by rw [hx4]; exact (RowKit.Below.refl _ _).alloc (Nat.le_refl _) _
    have N7 := hid (show Has x4 q7 #[.string fv.pack, .int .i64 fv.at_, .int .i64 fv.len] 37 from by rw [hx4]; exact Has.new _ _ _ _ hq7)
    have N5 := hid (N5'.out.below hbx N5'.out.lt)
    have BX4 := hid (B4.out.trans (hbx.mono B4.out.size))
    have HBX4 := hid (HB4.out.trans (hbx.mono HB4.out.size))
    clear hbx B4 HB4 N5'
    obtain ⟨k0, k1, k2, k3, k4, k5⟩ := HK.out x4 BX4.out
    have C1 := HF3.out x4 BX4.out
    clear HF3
    go_upto_region 5 with fail
    rw [← hx4, ← hq7]
    clear hx4 hq7
    go_wp2_with fail
    refine C1.mono ?_
    rintro e w5 ⟨v1, rfl, hrow, b5⟩
    obtain ⟨A1, d1, rfl, _, hT⟩ := own_tx hrow
    have HT1' := hid hT
    have B5 := hid (BX4.out.trans (b5.mono BX4.out.size))
    have HB5 := hid (HBX4.out.trans (b5.mono HBX4.out.size))
    have M5 := hid (N5.out.below b5 N5.out.lt)
    have M7 := hid (N7.out.below b5 N7.out.lt)
    clear C1 b5 k0 k1 k2 k3 k4 k5 BX4 HBX4 N5 N7 hrow hT
    obtain ⟨k0, k1, k2, k3, k4, k5⟩ := HK.out w5 B5.out
    have C1 := HF4.out w5 B5.out
    clear HF4
    go_wp2_with fail
    refine C1.mono ?_
    rintro e w6 ⟨v2, rfl, hrow, b6⟩
    obtain ⟨A2, d2, rfl, _, hT⟩ := own_tx hrow
    have HT2' := hid hT
    have HT1'' := hid (HT1'.out.below b6)
    have B6 := hid (B5.out.trans (b6.mono B5.out.size))
    have HB6 := hid (HB5.out.trans (b6.mono HB5.out.size))
    have N5 := hid (M5.out.below b6 M5.out.lt)
    have N7 := hid (M7.out.below b6 M7.out.lt)
    clear C1 b6 k0 k1 k2 k3 k4 k5 B5 HB5 M5 M7 hrow hT HT1'
    obtain ⟨k0, k1, k2, k3, k4, k5⟩ := HK.out w6 B6.out
    have C1 := HF5.out w6 B6.out
    clear HF5
    go_wp2_with fail
    refine C1.mono ?_
    rintro e w7 ⟨v3, v4, rfl, ⟨A3, A4, d3, d4, rfl, rfl, hT3, hT4⟩, b7⟩
    have HT3' := hid hT3
    have HT4' := hid hT4
    have HT1' := hid (HT1''.out.below b7)
    have HT2'' := hid (HT2'.out.below b7)
    have B7 := hid (B6.out.trans (b7.mono B6.out.size))
    have HB7 := hid (HB6.out.trans (b7.mono HB6.out.size))
    have M5 := hid (N5.out.below b7 N5.out.lt)
    have M7 := hid (N7.out.below b7 N7.out.lt)
    clear C1 b7 k0 k1 k2 k3 k4 k5 B6 HB6 N5 N7 hT3 hT4 HT1'' HT2'
    obtain ⟨k0, k1, k2, k3, k4, k5⟩ := HK.out w7 B7.out
    have C1 := HF6.out w7 B7.out
    clear HF6
    go_wp2_with fail
    refine C1.mono ?_
    rintro e w8 ⟨v5, v6, rfl, ⟨A5, A6, d5, d6, rfl, rfl, hT5, hT6⟩, b8⟩
    have HT5 := hid hT5
    have HT6 := hid hT6
    have HT1 := hid (HT1'.out.below b8)
    have HT2 := hid (HT2''.out.below b8)
    have HT3 := hid (HT3'.out.below b8)
    have HT4 := hid (HT4'.out.below b8)
    have HBA := hid (B7.out.trans (b8.mono B7.out.size))
    have HB8 := hid (HB7.out.trans (b8.mono HB7.out.size))
    have n5 := M5.out.below b8 M5.out.lt
    have n7 := M7.out.below b8 M7.out.lt
    clear C1 b8 k0 k1 k2 k3 k4 k5 B7 HB7 M5 M7 hT5 hT6 HT1' HT2'' HT3' HT4'
    obtain ⟨k0, k1, k2, k3, k4, k5⟩ := HK.out w8 HBA.out
    have r0 : w8.cell? ⟨q5, 0, none⟩ = some (.string fv.pack) := by rw [n5.cell]; rfl
    have r1 : w8.cell? ⟨q5, 1, none⟩ = some (.int .i64 fv.at_) := by rw [n5.cell]; rfl
    have r2 : w8.cell? ⟨q5, 2, none⟩ = some (.int .i64 fv.len) := by rw [n5.cell]; rfl
    have t0 : w8.cell? ⟨q7, 0, none⟩ = some (.string fv.pack) := by rw [n7.cell]; rfl
    have t1 : w8.cell? ⟨q7, 1, none⟩ = some (.int .i64 fv.at_) := by rw [n7.cell]; rfl
    have t2 : w8.cell? ⟨q7, 2, none⟩ = some (.int .i64 fv.len) := by rw [n7.cell]; rfl
    have HL5 := hid n5.lt
    have HL7 := hid n7.lt
    have HLB : Hid (b < w8.heap.size) := hid (Nat.lt_of_lt_of_le HN.out.lt HBA.out.size)
    have HTX := hid (fun (A B : Option Addr) (c d : Nat) (W : World) (h1 : Tx W A (ov.map Prod.fst)) (h2 : Tx W B (ov.map Prod.fst)) => (show Calls Try.prog 18 #[.slice A ov.length c, .slice B ov.length d] W fun e w' => e = .returned (.bool true) ∧ RowKit.Below W.heap.size W w' from by
      have := texts_any (ov.map Prod.fst) A B c d (by rw [List.length_map]; exact HQ2.out) W h1 h2
      rwa [List.length_map] at this))
    have HPX := hid (fun (A B : Option Addr) (c d : Nat) (W : World) (h1 : Ps W A (ov.map Prod.snd)) (h2 : Ps W B (ov.map Prod.snd)) => (show Calls Try.prog 19 #[.slice A ov.length c, .slice B ov.length d] W fun e w' => e = .returned (.bool true) ∧ RowKit.Below W.heap.size W w' from by
      have := places_any (ov.map Prod.snd) A B c d (by rw [List.length_map]; exact HQ2.out) W h1 h2
      rwa [List.length_map] at this))
    have HTP := hid (fun (A B : Option Addr) (c d : Nat) (W : World) (h1 : Tx W A pv) (h2 : Tx W B pv) => (show Calls Try.prog 18 #[.slice A pv.length c, .slice B pv.length d] W fun e w' => e = .returned (.bool true) ∧ RowKit.Below W.heap.size W w' from texts_any pv A B c d HQ1.out W h1 h2))
    clear n5 n7
    clear HQ1 HQ2
    generalize pv.length = np at *
    generalize ov.length = no at *
    generalize s.k = sk at *
    generalize s.n = sn at *
    generalize s.nx = sx at *
    generalize s.sn.length = n0 at *
    generalize s.C.length = n1 at *
    generalize s.P.length = n2 at *
    go_upto_region 9 with fail
    refine Tl.wp_mix_lit (by kernel_rfl) 40 [57, 58, 59, 60, 61, 62, 63, 64, 65, 66, 67, 68, 69, 70, 71, 72, 73, 74, 75, 76, 77, 78, 79, 80, 81, 82, 83, 84, 85, 86, 87, 88, 89, 90, 91, 92, 93, 94, 95, 96] 97 rfl (by kernel_rfl) (fun W => RowKit.Below w8.heap.size w8 W) (fdF fv fe pe oe sk sn sx np no n0 n1 n2 c0 c1 c2 d1 d2 d3 d4 d5 d6 a0 a1 a2 A1 A2 A3 A4 A5 A6 mz) ((RowKit.Below.refl _ _).drew)
      ⟨fun a' W' hC hF => ?_, fun a' W' hC hF => ?_, fun a' W' hC hF => ?_, fun a' W' hC hF => ?_, fun a' W' hC hF => ?_, fun a' W' hC hF => ?_, fun a' W' hC hF => ?_, fun a' W' hC hF => ?_, fun a' W' hC hF => ?_, fun a' W' hC hF => ?_, fun a' W' hC hF => ?_, fun a' W' hC hF => ?_, fun a' W' hC hF => ?_, fun a' W' hC hF => ?_, fun a' W' hC hF => ?_, fun a' W' hC hF => ?_, fun a' W' hC hF => ?_, fun a' W' hC hF => ?_, fun a' W' hC hF => ?_, fun a' W' hC hF => ?_, fun a' W' hC hF => ?_, fun a' W' hC hF => ?_, fun a' W' hC hF => ?_, fun a' W' hC hF => ?_, fun a' W' hC hF => ?_, fun a' W' hC hF => ?_, fun a' W' hC hF => ?_, fun a' W' hC hF => ?_, fun a' W' hC hF => ?_, fun a' W' hC hF => ?_, fun a' W' hC hF => ?_, fun a' W' hC hF => ?_, fun a' W' hC hF => ?_, fun a' W' hC hF => ?_, fun a' W' hC hF => ?_, fun a' W' hC hF => ?_, fun a' W' hC hF => ?_, fun a' W' hC hF => ?_, fun a' W' hC hF => ?_, fun a' W' hC hF => ?_, trivial⟩ ?_
    · exact Tl.sm_v 57 _ rfl (Tl.wanted_none rfl) hC rfl (rn_load37 rfl ((hF 5 (by decide +kernel)).2 (by decide)) ((hC.cell (p := ⟨q5, 0, none⟩) HL5.out).trans r0) ((hC.cell (p := ⟨q5, 1, none⟩) HL5.out).trans r1) ((hC.cell (p := ⟨q5, 2, none⟩) HL5.out).trans r2))
    · exact Tl.sm_v 58 _ rfl (Tl.wanted_none rfl) hC rfl (rn_load37 rfl ((hF 7 (by decide +kernel)).2 (by decide)) ((hC.cell (p := ⟨q7, 0, none⟩) HL7.out).trans t0) ((hC.cell (p := ⟨q7, 1, none⟩) HL7.out).trans t1) ((hC.cell (p := ⟨q7, 2, none⟩) HL7.out).trans t2))
    · exact Tl.sm_v 59 _ rfl (Tl.wanted_none rfl) hC rfl (rn_eql37 rfl (show Act.eval a' (.tmp 57) = .agg #[.string fv.pack, .int .i64 fv.at_, .int .i64 fv.len] from ((hF 57 (by decide +kernel)).1 (by decide))) (show Act.eval a' (.tmp 58) = .agg #[.string fv.pack, .int .i64 fv.at_, .int .i64 fv.len] from ((hF 58 (by decide +kernel)).1 (by decide))))
    · exact Tl.sm_v 60 _ rfl (Tl.wanted_none rfl) hC rfl (rn_move rfl (show Act.eval a' (.tmp 59) = .bool true from ((hF 59 (by decide +kernel)).1 (by decide))))
    · exact Tl.sm_v 61 _ rfl (Tl.wanted_is rfl rfl (show Act.eval a' (.tmp 60) = .bool true from ((hF 60 (by decide +kernel)).1 (by decide)))) hC rfl (rn_move rfl ((hF 6 (by decide +kernel)).2 (by decide)))
    · exact Tl.sm_v 62 _ rfl (Tl.wanted_is rfl rfl (show Act.eval a' (.tmp 60) = .bool true from ((hF 60 (by decide +kernel)).1 (by decide)))) hC rfl (rn_move rfl ((hF 8 (by decide +kernel)).2 (by decide)))
    · exact Tl.sm_v 63 _ rfl (Tl.wanted_is rfl rfl (show Act.eval a' (.tmp 60) = .bool true from ((hF 60 (by decide +kernel)).1 (by decide)))) hC rfl (rn_eql31 rfl (show Act.eval a' (.tmp 61) = .int .i64 fe from ((hF 61 (by decide +kernel)).1 (by decide))) (show Act.eval a' (.tmp 62) = .int .i64 fe from ((hF 62 (by decide +kernel)).1 (by decide))) ((by simp)))
    · exact Tl.sm_v 64 _ rfl (Tl.wanted_none rfl) hC rfl (rn_pickT rfl (show Act.eval a' (.tmp 60) = .bool true from ((hF 60 (by decide +kernel)).1 (by decide))) (show Act.eval a' (.tmp 63) = .bool true from ((hF 63 (by decide +kernel)).1 (by decide))))
    · exact Tl.sm_v 65 _ rfl (Tl.wanted_none rfl) hC rfl (rn_move rfl (show Act.eval a' (.tmp 64) = .bool true from ((hF 64 (by decide +kernel)).1 (by decide))))
    · exact Tl.sm_v 66 _ rfl (Tl.wanted_is rfl rfl (show Act.eval a' (.tmp 65) = .bool true from ((hF 65 (by decide +kernel)).1 (by decide)))) hC rfl (rn_move rfl ((hF 9 (by decide +kernel)).2 (by decide)))
    · exact Tl.sm_v 67 _ rfl (Tl.wanted_is rfl rfl (show Act.eval a' (.tmp 65) = .bool true from ((hF 65 (by decide +kernel)).1 (by decide)))) hC rfl (rn_move rfl ((hF 11 (by decide +kernel)).2 (by decide)))
    · refine Tl.sm_call 18 #[_, _] (Tl.wanted_is rfl rfl (show Act.eval a' (.tmp 65) = .bool true from ((hF 65 (by decide +kernel)).1 (by decide)))) (rn_call2 rfl rfl (show Act.eval a' (.tmp 66) = .slice A1 np d1 from ((hF 66 (by decide +kernel)).1 (by decide))) (show Act.eval a' (.tmp 67) = .slice A2 np d2 from ((hF 67 (by decide +kernel)).1 (by decide))) (en18 _ _)) ((HTP.out A1 A2 d1 d2 W' (HT1.out.below hC) (HT2.out.below hC)).mono ?_)
      rintro e W'' ⟨rfl, hb⟩
      exact ⟨_, rfl, hC.trans (hb.mono hC.size), fun d v _ h => h, fun d hd => by cases hd; rfl⟩
    · exact Tl.sm_v 69 _ rfl (Tl.wanted_none rfl) hC rfl (rn_pickT rfl (show Act.eval a' (.tmp 65) = .bool true from ((hF 65 (by decide +kernel)).1 (by decide))) (show Act.eval a' (.tmp 68) = .bool true from ((hF 68 (by decide +kernel)).1 (by decide))))
    · exact Tl.sm_v 70 _ rfl (Tl.wanted_none rfl) hC rfl (rn_move rfl (show Act.eval a' (.tmp 69) = .bool true from ((hF 69 (by decide +kernel)).1 (by decide))))
    · exact Tl.sm_v 71 _ rfl (Tl.wanted_is rfl rfl (show Act.eval a' (.tmp 70) = .bool true from ((hF 70 (by decide +kernel)).1 (by decide)))) hC rfl (rn_move rfl ((hF 10 (by decide +kernel)).2 (by decide)))
    · exact Tl.sm_v 72 _ rfl (Tl.wanted_is rfl rfl (show Act.eval a' (.tmp 70) = .bool true from ((hF 70 (by decide +kernel)).1 (by decide)))) hC rfl (rn_move rfl ((hF 12 (by decide +kernel)).2 (by decide)))
    · exact Tl.sm_v 73 _ rfl (Tl.wanted_is rfl rfl (show Act.eval a' (.tmp 70) = .bool true from ((hF 70 (by decide +kernel)).1 (by decide)))) hC rfl (rn_eql31 rfl (show Act.eval a' (.tmp 71) = .int .i64 pe from ((hF 71 (by decide +kernel)).1 (by decide))) (show Act.eval a' (.tmp 72) = .int .i64 pe from ((hF 72 (by decide +kernel)).1 (by decide))) ((by simp)))
    · exact Tl.sm_v 74 _ rfl (Tl.wanted_none rfl) hC rfl (rn_pickT rfl (show Act.eval a' (.tmp 70) = .bool true from ((hF 70 (by decide +kernel)).1 (by decide))) (show Act.eval a' (.tmp 73) = .bool true from ((hF 73 (by decide +kernel)).1 (by decide))))
    · exact Tl.sm_v 75 _ rfl (Tl.wanted_none rfl) hC rfl (rn_move rfl (show Act.eval a' (.tmp 74) = .bool true from ((hF 74 (by decide +kernel)).1 (by decide))))
    · exact Tl.sm_v 76 _ rfl (Tl.wanted_is rfl rfl (show Act.eval a' (.tmp 75) = .bool true from ((hF 75 (by decide +kernel)).1 (by decide)))) hC rfl (rn_move rfl ((hF 13 (by decide +kernel)).2 (by decide)))
    · exact Tl.sm_v 77 _ rfl (Tl.wanted_is rfl rfl (show Act.eval a' (.tmp 75) = .bool true from ((hF 75 (by decide +kernel)).1 (by decide)))) hC rfl (rn_move rfl ((hF 16 (by decide +kernel)).2 (by decide)))
    · refine Tl.sm_call 18 #[_, _] (Tl.wanted_is rfl rfl (show Act.eval a' (.tmp 75) = .bool true from ((hF 75 (by decide +kernel)).1 (by decide)))) (rn_call2 rfl rfl (show Act.eval a' (.tmp 76) = .slice A3 no d3 from ((hF 76 (by decide +kernel)).1 (by decide))) (show Act.eval a' (.tmp 77) = .slice A5 no d5 from ((hF 77 (by decide +kernel)).1 (by decide))) (en18 _ _)) ((HTX.out A3 A5 d3 d5 W' (HT3.out.below hC) (HT5.out.below hC)).mono ?_)
      rintro e W'' ⟨rfl, hb⟩
      exact ⟨_, rfl, hC.trans (hb.mono hC.size), fun d v _ h => h, fun d hd => by cases hd; rfl⟩
    · exact Tl.sm_v 79 _ rfl (Tl.wanted_none rfl) hC rfl (rn_pickT rfl (show Act.eval a' (.tmp 75) = .bool true from ((hF 75 (by decide +kernel)).1 (by decide))) (show Act.eval a' (.tmp 78) = .bool true from ((hF 78 (by decide +kernel)).1 (by decide))))
    · exact Tl.sm_v 80 _ rfl (Tl.wanted_none rfl) hC rfl (rn_move rfl (show Act.eval a' (.tmp 79) = .bool true from ((hF 79 (by decide +kernel)).1 (by decide))))
    · exact Tl.sm_v 81 _ rfl (Tl.wanted_is rfl rfl (show Act.eval a' (.tmp 80) = .bool true from ((hF 80 (by decide +kernel)).1 (by decide)))) hC rfl (rn_move rfl ((hF 14 (by decide +kernel)).2 (by decide)))
    · exact Tl.sm_v 82 _ rfl (Tl.wanted_is rfl rfl (show Act.eval a' (.tmp 80) = .bool true from ((hF 80 (by decide +kernel)).1 (by decide)))) hC rfl (rn_move rfl ((hF 17 (by decide +kernel)).2 (by decide)))
    · refine Tl.sm_call 19 #[_, _] (Tl.wanted_is rfl rfl (show Act.eval a' (.tmp 80) = .bool true from ((hF 80 (by decide +kernel)).1 (by decide)))) (rn_call2 rfl rfl (show Act.eval a' (.tmp 81) = .slice A4 no d4 from ((hF 81 (by decide +kernel)).1 (by decide))) (show Act.eval a' (.tmp 82) = .slice A6 no d6 from ((hF 82 (by decide +kernel)).1 (by decide))) (en19 _ _)) ((HPX.out A4 A6 d4 d6 W' (HT4.out.below hC) (HT6.out.below hC)).mono ?_)
      rintro e W'' ⟨rfl, hb⟩
      exact ⟨_, rfl, hC.trans (hb.mono hC.size), fun d v _ h => h, fun d hd => by cases hd; rfl⟩
    · exact Tl.sm_v 84 _ rfl (Tl.wanted_none rfl) hC rfl (rn_pickT rfl (show Act.eval a' (.tmp 80) = .bool true from ((hF 80 (by decide +kernel)).1 (by decide))) (show Act.eval a' (.tmp 83) = .bool true from ((hF 83 (by decide +kernel)).1 (by decide))))
    · exact Tl.sm_v 85 _ rfl (Tl.wanted_none rfl) hC rfl (rn_move rfl (show Act.eval a' (.tmp 84) = .bool true from ((hF 84 (by decide +kernel)).1 (by decide))))
    · exact Tl.sm_v 86 _ rfl (Tl.wanted_is rfl rfl (show Act.eval a' (.tmp 85) = .bool true from ((hF 85 (by decide +kernel)).1 (by decide)))) hC rfl (rn_move rfl ((hF 15 (by decide +kernel)).2 (by decide)))
    · exact Tl.sm_v 87 _ rfl (Tl.wanted_is rfl rfl (show Act.eval a' (.tmp 85) = .bool true from ((hF 85 (by decide +kernel)).1 (by decide)))) hC rfl (rn_move rfl ((hF 18 (by decide +kernel)).2 (by decide)))
    · exact Tl.sm_v 88 _ rfl (Tl.wanted_is rfl rfl (show Act.eval a' (.tmp 85) = .bool true from ((hF 85 (by decide +kernel)).1 (by decide)))) hC rfl (rn_eql31 rfl (show Act.eval a' (.tmp 86) = .int .i64 oe from ((hF 86 (by decide +kernel)).1 (by decide))) (show Act.eval a' (.tmp 87) = .int .i64 oe from ((hF 87 (by decide +kernel)).1 (by decide))) ((by simp)))
    · exact Tl.sm_v 89 _ rfl (Tl.wanted_none rfl) hC rfl (rn_pickT rfl (show Act.eval a' (.tmp 85) = .bool true from ((hF 85 (by decide +kernel)).1 (by decide))) (show Act.eval a' (.tmp 88) = .bool true from ((hF 88 (by decide +kernel)).1 (by decide))))
    · exact Tl.sm_v 90 _ rfl (Tl.wanted_none rfl) hC rfl (rn_move rfl (show Act.eval a' (.tmp 89) = .bool true from ((hF 89 (by decide +kernel)).1 (by decide))))
    · exact Tl.sm_v 91 _ rfl (Tl.wanted_is rfl rfl (show Act.eval a' (.tmp 90) = .bool true from ((hF 90 (by decide +kernel)).1 (by decide)))) hC rfl (rn_load28 rfl ((hF 2 (by decide +kernel)).2 (by decide)) ((hC.cell (p := ⟨b, 0, none⟩) HLB.out).trans k0) ((hC.cell (p := ⟨b, 1, none⟩) HLB.out).trans k1) ((hC.cell (p := ⟨b, 2, none⟩) HLB.out).trans k2) ((hC.cell (p := ⟨b, 3, none⟩) HLB.out).trans k3) ((hC.cell (p := ⟨b, 4, none⟩) HLB.out).trans k4) ((hC.cell (p := ⟨b, 5, none⟩) HLB.out).trans k5))
    · refine Tl.sm_call 20 #[_] (Tl.wanted_is rfl rfl (show Act.eval a' (.tmp 90) = .bool true from ((hF 90 (by decide +kernel)).1 (by decide)))) (rn_call1 rfl rfl (show Act.eval a' (.tmp 91) = .agg #[.int .i64 sk, .int .i64 sn, .int .i64 sx, .slice a0 n0 c0, .slice a1 n1 c1, .slice a2 n2 c2] from ((hF 91 (by decide +kernel)).1 (by decide))) (en20 _ _)) ((HF7.out W' (HBA.out.trans (hC.mono HBA.out.size))).mono ?_)
      rintro e W'' ⟨rfl, hb⟩
      exact ⟨_, rfl, hC.trans (hb.mono hC.size), fun d v _ h => h, fun d hd => by cases hd; rfl⟩
    · exact Tl.sm_v 93 _ rfl (Tl.wanted_is rfl rfl (show Act.eval a' (.tmp 90) = .bool true from ((hF 90 (by decide +kernel)).1 (by decide)))) hC rfl (rn_load28 rfl ((hF 2 (by decide +kernel)).2 (by decide)) ((hC.cell (p := ⟨b, 0, none⟩) HLB.out).trans k0) ((hC.cell (p := ⟨b, 1, none⟩) HLB.out).trans k1) ((hC.cell (p := ⟨b, 2, none⟩) HLB.out).trans k2) ((hC.cell (p := ⟨b, 3, none⟩) HLB.out).trans k3) ((hC.cell (p := ⟨b, 4, none⟩) HLB.out).trans k4) ((hC.cell (p := ⟨b, 5, none⟩) HLB.out).trans k5))
    · refine Tl.sm_call 21 #[_] (Tl.wanted_is rfl rfl (show Act.eval a' (.tmp 90) = .bool true from ((hF 90 (by decide +kernel)).1 (by decide)))) (rn_call1 rfl rfl (show Act.eval a' (.tmp 93) = .agg #[.int .i64 sk, .int .i64 sn, .int .i64 sx, .slice a0 n0 c0, .slice a1 n1 c1, .slice a2 n2 c2] from ((hF 93 (by decide +kernel)).1 (by decide))) (en21 _ _)) ((HF8.out W' (HBA.out.trans (hC.mono HBA.out.size))).mono ?_)
      rintro e W'' ⟨rfl, hb⟩
      exact ⟨_, rfl, hC.trans (hb.mono hC.size), fun d v _ h => h, fun d hd => by cases hd; rfl⟩
    · exact Tl.sm_v 95 _ rfl (Tl.wanted_is rfl rfl (show Act.eval a' (.tmp 90) = .bool true from ((hF 90 (by decide +kernel)).1 (by decide)))) hC rfl (rn_eql4 rfl (show Act.eval a' (.tmp 92) = .bool mz from ((hF 92 (by decide +kernel)).1 (by decide))) (show Act.eval a' (.tmp 94) = .bool mz from ((hF 94 (by decide +kernel)).1 (by decide))) ((by simp)))
    · exact Tl.sm_v 96 _ rfl (Tl.wanted_none rfl) hC rfl (rn_pickT rfl (show Act.eval a' (.tmp 90) = .bool true from ((hF 90 (by decide +kernel)).1 (by decide))) (show Act.eval a' (.tmp 95) = .bool true from ((hF 95 (by decide +kernel)).1 (by decide))))
    intro v' w9 hC hv
    have e96 : v' 96 = .bool true := hv 96 (by decide)
    clear hv
    have HB9 := hid (HB8.out.trans (hC.mono HB8.out.size))
    clear hC k0 k1 k2 k3 k4 k5 r0 r1 r2 t0 t1 t2
    simp only [Tl.fill, List.drop]
    simp only [Act.put, List.setIfInBounds_toArray, List.set_cons_succ, List.set_cons_zero, e96]
    go_wp2_with fail
    go_ret
    exact ⟨rfl, HB9.out⟩
end Go.Proofs.Ytknddbmnciodaaa
