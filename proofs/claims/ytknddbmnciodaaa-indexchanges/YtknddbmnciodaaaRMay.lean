/- The contract of the document's May. -/
import Derived.Test.YtknddbmnciodaaaCom
import Derived.Test.YtknddbmnciodaaaPMay
import Derived.Test.YtknddbmnciodaaaOps2
namespace Go.Proofs.Ytknddbmnciodaaa
open Go.RowKit Go.Lib Go.Sort
open Ix
set_option linter.unusedVariables false
theorem wanted_un {ops : Array Oper} {o : Oper} {a : Act} {g s : Nat} {b : Bool} (h : o.guard = some (g, b)) (hs : Tl.dstOf ops g = some s) (hv : a.tmps.getD s undef = undef) : Region.wanted o (yielded ops a.tmps) = false := by
  unfold Tl.dstOf at hs
  cases hg : ops[g]? with
  | none => rw [hg] at hs; simp at hs
  | some og =>
    rw [hg] at hs
    simp only [Option.bind_some] at hs
    rw [Array.getD_eq_getD_getElem?] at hv
    cases hq : a.tmps[s]? with
    | none => simp [Region.wanted, h, yielded, hg, hs, hq]
    | some v =>
      rw [hq] at hv
      simp only [Option.getD_some] at hv
      subst hv
      simp [Region.wanted, h, yielded, hg, hs, hq, undef]
def rmAV (g o n c1 g' o' c2 b k : Nat) (x x0 y : ByteArray) (ya yl : Int) (mp : Bool) : Nat → Value
  | 24 => .pointer (some ⟨b, 4, none⟩)
  | 25 => .slice (some ⟨g, o, none⟩) n c1
  | 26 => .int .i64 (k : Int)
  | 27 => .pointer (some ⟨g, o + k, none⟩)
  | 28 => .string x
  | 29 => .int .i64 (x.size : Int)
  | 30 => .bool true
  | 31 => .bool true
  | 48 => .bool true
  | 49 => .bool true
  | 57 => .bool true
  | _ => undef
def rmAF (g o n c1 g' o' c2 b k : Nat) (x x0 y : ByteArray) (ya yl : Int) (mp : Bool) (d : Nat) (v : Value) (_ : World) : Prop := v = rmAV g o n c1 g' o' c2 b k x x0 y ya yl mp d
def rmBV (g o n c1 g' o' c2 b k : Nat) (x x0 y : ByteArray) (ya yl : Int) (mp : Bool) : Nat → Value
  | 24 => .pointer (some ⟨b, 4, none⟩)
  | 25 => .slice (some ⟨g, o, none⟩) n c1
  | 26 => .int .i64 (k : Int)
  | 27 => .pointer (some ⟨g, o + k, none⟩)
  | 28 => .string x
  | 29 => .int .i64 (x.size : Int)
  | 30 => .bool false
  | 31 => .bool false
  | 32 => .int .i64 (k : Int)
  | 33 => .bool false
  | 34 => .bool false
  | 47 => .bool false
  | 48 => .bool false
  | 49 => .bool false
  | 50 => .pointer (some ⟨b, 5, none⟩)
  | 51 => .slice (some ⟨g', o', none⟩) n c2
  | 52 => .int .i64 (k : Int)
  | 53 => .pointer (some ⟨g', o' + k * 3, none⟩)
  | 54 => .agg #[.string y, .int .i64 ya, .int .i64 yl]
  | 55 => .bool mp
  | 56 => .bool (!mp)
  | 57 => .bool (!mp)
  | _ => undef
def rmBF (g o n c1 g' o' c2 b k : Nat) (x x0 y : ByteArray) (ya yl : Int) (mp : Bool) (d : Nat) (v : Value) (_ : World) : Prop := v = rmBV g o n c1 g' o' c2 b k x x0 y ya yl mp d
def rmCV (g o n c1 g' o' c2 b k : Nat) (x x0 y : ByteArray) (ya yl : Int) (mp : Bool) : Nat → Value
  | 24 => .pointer (some ⟨b, 4, none⟩)
  | 25 => .slice (some ⟨g, o, none⟩) n c1
  | 26 => .int .i64 (k : Int)
  | 27 => .pointer (some ⟨g, o + k, none⟩)
  | 28 => .string x
  | 29 => .int .i64 (x.size : Int)
  | 30 => .bool false
  | 31 => .bool false
  | 32 => .int .i64 (k : Int)
  | 33 => .bool true
  | 34 => .bool true
  | 35 => .pointer (some ⟨b, 4, none⟩)
  | 36 => .slice (some ⟨g, o, none⟩) n c1
  | 37 => .int .i64 (k : Int)
  | 38 => .int .i64 ((k - 1 : Nat) : Int)
  | 39 => .pointer (some ⟨g, o + (k - 1), none⟩)
  | 40 => .string x0
  | 41 => .pointer (some ⟨b, 4, none⟩)
  | 42 => .slice (some ⟨g, o, none⟩) n c1
  | 43 => .int .i64 (k : Int)
  | 44 => .pointer (some ⟨g, o + k, none⟩)
  | 45 => .string x
  | 46 => .bool true
  | 47 => .bool true
  | 48 => .bool true
  | 49 => .bool true
  | 57 => .bool true
  | _ => undef
def rmCF (g o n c1 g' o' c2 b k : Nat) (x x0 y : ByteArray) (ya yl : Int) (mp : Bool) (d : Nat) (v : Value) (_ : World) : Prop := v = rmCV g o n c1 g' o' c2 b k x x0 y ya yl mp d
def rmDV (g o n c1 g' o' c2 b k : Nat) (x x0 y : ByteArray) (ya yl : Int) (mp : Bool) : Nat → Value
  | 24 => .pointer (some ⟨b, 4, none⟩)
  | 25 => .slice (some ⟨g, o, none⟩) n c1
  | 26 => .int .i64 (k : Int)
  | 27 => .pointer (some ⟨g, o + k, none⟩)
  | 28 => .string x
  | 29 => .int .i64 (x.size : Int)
  | 30 => .bool false
  | 31 => .bool false
  | 32 => .int .i64 (k : Int)
  | 33 => .bool true
  | 34 => .bool true
  | 35 => .pointer (some ⟨b, 4, none⟩)
  | 36 => .slice (some ⟨g, o, none⟩) n c1
  | 37 => .int .i64 (k : Int)
  | 38 => .int .i64 ((k - 1 : Nat) : Int)
  | 39 => .pointer (some ⟨g, o + (k - 1), none⟩)
  | 40 => .string x0
  | 41 => .pointer (some ⟨b, 4, none⟩)
  | 42 => .slice (some ⟨g, o, none⟩) n c1
  | 43 => .int .i64 (k : Int)
  | 44 => .pointer (some ⟨g, o + k, none⟩)
  | 45 => .string x
  | 46 => .bool false
  | 47 => .bool false
  | 48 => .bool false
  | 49 => .bool false
  | 50 => .pointer (some ⟨b, 5, none⟩)
  | 51 => .slice (some ⟨g', o', none⟩) n c2
  | 52 => .int .i64 (k : Int)
  | 53 => .pointer (some ⟨g', o' + k * 3, none⟩)
  | 54 => .agg #[.string y, .int .i64 ya, .int .i64 yl]
  | 55 => .bool mp
  | 56 => .bool (!mp)
  | 57 => .bool (!mp)
  | _ => undef
def rmDF (g o n c1 g' o' c2 b k : Nat) (x x0 y : ByteArray) (ya yl : Int) (mp : Bool) (d : Nat) (v : Value) (_ : World) : Prop := v = rmDV g o n c1 g' o' c2 b k x x0 y ya yl mp d
theorem okN_mono {C : List ByteArray} {P : List Pl} {n m : Nat} (h : okN C P n = false) (hm : n ≤ m) : okN C P m = false := by
  cases hb : okN C P m with
  | false => rfl
  | true =>
    have := okN_iff.1 hb
    rw [okN_iff.2 (fun i hi => this i (by omega))] at h
    cases h
set_option maxRecDepth 20000 in
set_option maxHeartbeats 8000000 in
theorem refMay_any (s : St) (a0 a1 a2 : Option Addr) (c0 c1 c2 : Nat) (hn : s.C.length ≤ 100000) (hn2 : s.P.length ≤ 100000) (w : World) (hC : Tx w a1 s.C) (hP : Ps w a2 s.P) :
    Calls Try.prog 21 #[.agg (stV s a0 a1 a2 c0 c1 c2)] w fun e w' => e = .returned (.bool (mayS s.C s.P)) ∧ RowKit.Below w.heap.size w w' := by
  obtain ⟨w1, hw1, hB, n1⟩ := box_state (w := w) s a0 a1 a2 c0 c1 c2
  obtain ⟨b, hb⟩ : ∃ b, b = w.heap.size := ⟨_, rfl⟩
  rw [← hb] at n1
  have HK := hid (fun W (hW : RowKit.Below w1.heap.size w1 W) => (show (W.cell? ⟨b, 4, none⟩ = some (.slice a1 s.C.length c1) ∧ W.cell? ⟨b, 5, none⟩ = some (.slice a2 s.P.length c2) ∧ b < W.heap.size) from ⟨by rw [(n1.below hW n1.lt).cell]; rfl, by rw [(n1.below hW n1.lt).cell]; rfl, (n1.below hW n1.lt).lt⟩))
  have HC := hid (hC.below hB)
  have HP := hid (hP.below hB)
  have HB := hid hB
  have HCM := hid (fun (hm : ∀ p ∈ s.P, mayP p) W (hW : RowKit.Below w1.heap.size w1 W) => common_any s.P a2 c2 hn2 hm W ((hP.below hB).below hW))
  obtain ⟨k4, k5, _⟩ := HK.out w1 (RowKit.Below.refl _ _)
  have HMS : Hid (mayS s.C s.P = (decide (s.C.length = s.P.length) && decide (s.C.length ≤ 400) && okN s.C s.P s.C.length && !comN s.P s.P.length)) := hid rfl
  clear hB n1 hC hP
  change w1 = w.alloc (.cells #[.int .i64 s.k, .int .i64 s.n, .int .i64 s.nx, .slice a0 s.sn.length c0, .slice a1 s.C.length c1, .slice a2 s.P.length c2] 28) at hw1
  show Calls Try.prog 21 #[.agg #[.int .i64 s.k, .int .i64 s.n, .int .i64 s.nx, .slice a0 s.sn.length c0, .slice a1 s.C.length c1, .slice a2 s.P.length c2]] w _
  generalize mayS s.C s.P = z at *
  generalize hcl : s.C.length = n at *
  generalize hpl : s.P.length = m at *
  have HCL := hid hcl
  have HPL := hid hpl
  clear hcl hpl
  go_enter Try.func21, Try.ntmps21
  go_upto_region 1 with fail
  rw [← hw1, ← hb]
  clear hw1 hb
  by_cases h1 : n = m
  · subst h1
    have q1 : ((n : Int) != (n : Int)) = false := by simp
    by_cases h2 : 400 < n
    · have i2 : (400 : Int) < (n : Int) := by omega
      have i3 : decide (400 < n) = true := decide_eq_true h2
      have HZ : Hid (z = false) := hid (by rw [HMS.out, decide_eq_false (by omega : ¬ n ≤ 400)]; simp)
      clear h2
      go_wp2_with fail
      go_ret
      exact ⟨by rw [HZ.out]; rfl, HB.out⟩
    · have i2 : ¬ (400 : Int) < (n : Int) := by omega
      have HZ : Hid (z = (okN s.C s.P n && !comN s.P n)) := hid (by rw [HMS.out, decide_eq_true (by omega : n ≤ 400)]; simp)
      clear h2
      go_wp2_with fail
      go_loopw [3] (fun v3 wr => ∃ k : Nat, k ≤ n ∧ v3 = .int .i64 (k : Int) ∧ Hid (okN s.C s.P k = true) ∧ Hid (RowKit.Below w1.heap.size w1 wr)) (fun v3 _ => n - (intOf v3).toNat)
      case atStart => exact ⟨0, Nat.zero_le _, rfl, hid rfl, hid (RowKit.Below.refl _ _)⟩
      case round =>
        clear k4 k5
        obtain ⟨k, hk, rfl, HR, HW⟩ := hrel
        obtain ⟨k4, k5, hbs⟩ := HK.out wr HW.out
        by_cases hlt : k < n
        · have hl1 : k < s.C.length := by rw [HCL.out]; exact hlt
          have hl2 : k < s.P.length := by rw [HPL.out]; exact hlt
          obtain ⟨g, o, rfl, hg, e1⟩ := tx_cell HC.out HW.out hl1
          obtain ⟨g', o', rfl, hg', f1, f2, f3⟩ := ps_cell HP.out HW.out hl2
          have hgs : g < wr.heap.size := Nat.lt_of_lt_of_le hg HW.out.size
          have hgs' : g' < wr.heap.size := Nat.lt_of_lt_of_le hg' HW.out.size
          have j1 : (k : Int) < (n : Int) := by omega
          have j0 : (0 : Int) ≤ (k : Int) := by omega
          have wk : IntKind.i64.wrap ((k : Int) + 1) = ((k + 1 : Nat) : Int) := by rw [IntKind.wrap_i64]; omega
          have C1 : ∀ W, Calls Try.prog 29 #[.agg #[.string (s.P.getD k default).pack, .int .i64 (s.P.getD k default).at_, .int .i64 (s.P.getD k default).len]] W fun e w' => e = .returned (.bool (decide (mayP (s.P.getD k default)))) ∧ RowKit.Below W.heap.size W w' := fun W => mayPlace_any _ W
          have HO : Hid (okN s.C s.P (k + 1) = (decide ((s.C.getD k ⟨#[]⟩).size = 32) && (decide (k = 0) || lt (s.C.getD (k - 1) ⟨#[]⟩) (s.C.getD k ⟨#[]⟩)) && decide (mayP (s.P.getD k default)))) := hid (by rw [okN, HR.out, Bool.true_and]; rfl)
          have q3 := size32 (s.C.getD k ⟨#[]⟩).size
          have HLB := hid hbs
          have HLG := hid hgs
          have HLP := hid hgs'
          generalize (s.P.getD k default).pack = y at *
          generalize (s.P.getD k default).at_ = ya at *
          generalize (s.P.getD k default).len = yl at *
          generalize decide (mayP (s.P.getD k default)) = mp at *
          clear hg hg' hbs hgs hgs'
          by_cases h3 : (s.C.getD k ⟨#[]⟩).size = 32
          · rw [decide_eq_true h3] at q3 HO
            clear h3
            by_cases h0 : k = 0
            · rw [decide_eq_true h0] at HO
              have q6 : decide ((0 : Int) < (k : Int)) = false := by simp; omega
              generalize s.C.getD k ⟨#[]⟩ = x at *
              obtain ⟨x0, _⟩ : ∃ x0 : ByteArray, x0 = x := ⟨_, rfl⟩
              have q5 : ((x.size : Int) != 32) = false := by rw [bne, q3]; rfl
              clear h0
              cases mp with
              | true =>
                go_upto_region 6 with fail
                refine Tl.wp_mix_lit (by kernel_rfl) 34 [24, 25, 26, 27, 28, 29, 30, 31, 32, 33, 34, 35, 36, 37, 38, 39, 40, 41, 42, 43, 44, 45, 46, 47, 48, 49, 50, 51, 52, 53, 54, 55, 56, 57] 62 rfl (by kernel_rfl) (fun W => RowKit.Below wr.heap.size wr W) (rmBF g o n c1 g' o' c2 b k x x0 y ya yl true) ((RowKit.Below.refl _ _).drew)
                  ⟨fun a' W' hC hF => ?_, fun a' W' hC hF => ?_, fun a' W' hC hF => ?_, fun a' W' hC hF => ?_, fun a' W' hC hF => ?_, fun a' W' hC hF => ?_, fun a' W' hC hF => ?_, fun a' W' hC hF => ?_, fun a' W' hC hF => ?_, fun a' W' hC hF => ?_, fun a' W' hC hF => ?_, fun a' W' hC hF => ?_, fun a' W' hC hF => ?_, fun a' W' hC hF => ?_, fun a' W' hC hF => ?_, fun a' W' hC hF => ?_, fun a' W' hC hF => ?_, fun a' W' hC hF => ?_, fun a' W' hC hF => ?_, fun a' W' hC hF => ?_, fun a' W' hC hF => ?_, fun a' W' hC hF => ?_, fun a' W' hC hF => ?_, fun a' W' hC hF => ?_, fun a' W' hC hF => ?_, fun a' W' hC hF => ?_, fun a' W' hC hF => ?_, fun a' W' hC hF => ?_, fun a' W' hC hF => ?_, fun a' W' hC hF => ?_, fun a' W' hC hF => ?_, fun a' W' hC hF => ?_, fun a' W' hC hF => ?_, fun a' W' hC hF => ?_, trivial⟩ ?_
                · exact Tl.sm_v 24 _ rfl (Tl.wanted_none rfl) hC rfl (rn_fa28_3 rfl ((hF 1 (by decide +kernel)).2 (by decide)))
                · exact Tl.sm_v 25 _ rfl (Tl.wanted_none rfl) hC rfl (rn_load25 rfl (show Act.eval a' (.tmp 24) = .pointer (some ⟨b, 4, none⟩) from ((hF 24 (by decide +kernel)).1 (by decide))) ((hC.cell (p := ⟨b, 4, none⟩) HLB.out).trans k4))
                · exact Tl.sm_v 26 _ rfl (Tl.wanted_none rfl) hC rfl (rn_move rfl ((hF 3 (by decide +kernel)).2 (by decide)))
                · exact Tl.sm_v 27 _ rfl (Tl.wanted_none rfl) hC rfl (rn_ix25 rfl (show Act.eval a' (.tmp 25) = .slice (some ⟨g, o, none⟩) n c1 from ((hF 25 (by decide +kernel)).1 (by decide))) (show Act.eval a' (.tmp 26) = .int .i64 (k : Int) from ((hF 26 (by decide +kernel)).1 (by decide))) hlt)
                · exact Tl.sm_v 28 _ rfl (Tl.wanted_none rfl) hC rfl (rn_load9 rfl (show Act.eval a' (.tmp 27) = .pointer (some ⟨g, o + k, none⟩) from ((hF 27 (by decide +kernel)).1 (by decide))) ((hC.cell (p := ⟨g, o + k, none⟩) HLG.out).trans e1))
                · exact Tl.sm_v 29 _ rfl (Tl.wanted_none rfl) hC rfl (rn_len9 rfl (show Act.eval a' (.tmp 28) = .string x from ((hF 28 (by decide +kernel)).1 (by decide))) )
                · exact Tl.sm_v 30 _ rfl (Tl.wanted_none rfl) hC rfl (rn_neq3 rfl (show Act.eval a' (.tmp 29) = .int .i64 (x.size : Int) from ((hF 29 (by decide +kernel)).1 (by decide))) rfl q5)
                · exact Tl.sm_v 31 _ rfl (Tl.wanted_none rfl) hC rfl (rn_move rfl (show Act.eval a' (.tmp 30) = .bool false from ((hF 30 (by decide +kernel)).1 (by decide))))
                · exact Tl.sm_v 32 _ rfl (Tl.wanted_is rfl rfl (show Act.eval a' (.tmp 31) = .bool false from ((hF 31 (by decide +kernel)).1 (by decide)))) hC rfl (rn_move rfl ((hF 3 (by decide +kernel)).2 (by decide)))
                · exact Tl.sm_v 33 _ rfl (Tl.wanted_is rfl rfl (show Act.eval a' (.tmp 31) = .bool false from ((hF 31 (by decide +kernel)).1 (by decide)))) hC rfl (rn_gtr3 rfl (show Act.eval a' (.tmp 32) = .int .i64 (k : Int) from ((hF 32 (by decide +kernel)).1 (by decide))) rfl q6)
                · exact Tl.sm_v 34 _ rfl (Tl.wanted_is rfl rfl (show Act.eval a' (.tmp 31) = .bool false from ((hF 31 (by decide +kernel)).1 (by decide)))) hC rfl (rn_move rfl (show Act.eval a' (.tmp 33) = .bool false from ((hF 33 (by decide +kernel)).1 (by decide))))
                · exact Tl.sm_skip (Tl.wanted_not rfl rfl (show Act.eval a' (.tmp 34) = .bool false from ((hF 34 (by decide +kernel)).1 (by decide)))) (fun d hd => by cases hd; rfl)
                · exact Tl.sm_skip (Tl.wanted_not rfl rfl (show Act.eval a' (.tmp 34) = .bool false from ((hF 34 (by decide +kernel)).1 (by decide)))) (fun d hd => by cases hd; rfl)
                · exact Tl.sm_skip (Tl.wanted_not rfl rfl (show Act.eval a' (.tmp 34) = .bool false from ((hF 34 (by decide +kernel)).1 (by decide)))) (fun d hd => by cases hd; rfl)
                · exact Tl.sm_skip (Tl.wanted_not rfl rfl (show Act.eval a' (.tmp 34) = .bool false from ((hF 34 (by decide +kernel)).1 (by decide)))) (fun d hd => by cases hd; rfl)
                · exact Tl.sm_skip (Tl.wanted_not rfl rfl (show Act.eval a' (.tmp 34) = .bool false from ((hF 34 (by decide +kernel)).1 (by decide)))) (fun d hd => by cases hd; rfl)
                · exact Tl.sm_skip (Tl.wanted_not rfl rfl (show Act.eval a' (.tmp 34) = .bool false from ((hF 34 (by decide +kernel)).1 (by decide)))) (fun d hd => by cases hd; rfl)
                · exact Tl.sm_skip (Tl.wanted_not rfl rfl (show Act.eval a' (.tmp 34) = .bool false from ((hF 34 (by decide +kernel)).1 (by decide)))) (fun d hd => by cases hd; rfl)
                · exact Tl.sm_skip (Tl.wanted_not rfl rfl (show Act.eval a' (.tmp 34) = .bool false from ((hF 34 (by decide +kernel)).1 (by decide)))) (fun d hd => by cases hd; rfl)
                · exact Tl.sm_skip (Tl.wanted_not rfl rfl (show Act.eval a' (.tmp 34) = .bool false from ((hF 34 (by decide +kernel)).1 (by decide)))) (fun d hd => by cases hd; rfl)
                · exact Tl.sm_skip (Tl.wanted_not rfl rfl (show Act.eval a' (.tmp 34) = .bool false from ((hF 34 (by decide +kernel)).1 (by decide)))) (fun d hd => by cases hd; rfl)
                · exact Tl.sm_skip (Tl.wanted_not rfl rfl (show Act.eval a' (.tmp 34) = .bool false from ((hF 34 (by decide +kernel)).1 (by decide)))) (fun d hd => by cases hd; rfl)
                · exact Tl.sm_skip (Tl.wanted_not rfl rfl (show Act.eval a' (.tmp 34) = .bool false from ((hF 34 (by decide +kernel)).1 (by decide)))) (fun d hd => by cases hd; rfl)
                · exact Tl.sm_v 47 _ rfl (Tl.wanted_is rfl rfl (show Act.eval a' (.tmp 31) = .bool false from ((hF 31 (by decide +kernel)).1 (by decide)))) hC rfl (rn_pickF rfl (show Act.eval a' (.tmp 34) = .bool false from ((hF 34 (by decide +kernel)).1 (by decide))) rfl)
                · exact Tl.sm_v 48 _ rfl (Tl.wanted_none rfl) hC rfl (rn_pickF rfl (show Act.eval a' (.tmp 31) = .bool false from ((hF 31 (by decide +kernel)).1 (by decide))) (show Act.eval a' (.tmp 47) = .bool false from ((hF 47 (by decide +kernel)).1 (by decide))))
                · exact Tl.sm_v 49 _ rfl (Tl.wanted_none rfl) hC rfl (rn_move rfl (show Act.eval a' (.tmp 48) = .bool false from ((hF 48 (by decide +kernel)).1 (by decide))))
                · exact Tl.sm_v 50 _ rfl (Tl.wanted_is rfl rfl (show Act.eval a' (.tmp 49) = .bool false from ((hF 49 (by decide +kernel)).1 (by decide)))) hC rfl (rn_fa28_4 rfl ((hF 1 (by decide +kernel)).2 (by decide)))
                · exact Tl.sm_v 51 _ rfl (Tl.wanted_is rfl rfl (show Act.eval a' (.tmp 49) = .bool false from ((hF 49 (by decide +kernel)).1 (by decide)))) hC rfl (rn_load26 rfl (show Act.eval a' (.tmp 50) = .pointer (some ⟨b, 5, none⟩) from ((hF 50 (by decide +kernel)).1 (by decide))) ((hC.cell (p := ⟨b, 5, none⟩) HLB.out).trans k5))
                · exact Tl.sm_v 52 _ rfl (Tl.wanted_is rfl rfl (show Act.eval a' (.tmp 49) = .bool false from ((hF 49 (by decide +kernel)).1 (by decide)))) hC rfl (rn_move rfl ((hF 3 (by decide +kernel)).2 (by decide)))
                · exact Tl.sm_v 53 _ rfl (Tl.wanted_is rfl rfl (show Act.eval a' (.tmp 49) = .bool false from ((hF 49 (by decide +kernel)).1 (by decide)))) hC rfl (rn_ix26 rfl (show Act.eval a' (.tmp 51) = .slice (some ⟨g', o', none⟩) n c2 from ((hF 51 (by decide +kernel)).1 (by decide))) (show Act.eval a' (.tmp 52) = .int .i64 (k : Int) from ((hF 52 (by decide +kernel)).1 (by decide))) hlt)
                · exact Tl.sm_v 54 _ rfl (Tl.wanted_is rfl rfl (show Act.eval a' (.tmp 49) = .bool false from ((hF 49 (by decide +kernel)).1 (by decide)))) hC rfl (rn_load37 rfl (show Act.eval a' (.tmp 53) = .pointer (some ⟨g', o' + k * 3, none⟩) from ((hF 53 (by decide +kernel)).1 (by decide))) ((hC.cell (p := ⟨g', o' + k * 3, none⟩) HLP.out).trans f1) ((hC.cell (p := ⟨g', o' + k * 3 + 1, none⟩) HLP.out).trans f2) ((hC.cell (p := ⟨g', o' + k * 3 + 2, none⟩) HLP.out).trans f3))
                · refine Tl.sm_call 29 #[_] (Tl.wanted_is rfl rfl (show Act.eval a' (.tmp 49) = .bool false from ((hF 49 (by decide +kernel)).1 (by decide)))) (rn_call1 rfl rfl (show Act.eval a' (.tmp 54) = .agg #[.string y, .int .i64 ya, .int .i64 yl] from ((hF 54 (by decide +kernel)).1 (by decide))) (en29 _ _)) ((C1 W').mono ?_)
                  rintro e W'' ⟨rfl, hb⟩
                  exact ⟨_, rfl, hC.trans (hb.mono hC.size), fun d v _ h => h, fun d hd => by cases hd; rfl⟩
                · exact Tl.sm_v 56 _ rfl (Tl.wanted_is rfl rfl (show Act.eval a' (.tmp 49) = .bool false from ((hF 49 (by decide +kernel)).1 (by decide)))) hC rfl (rn_not rfl (show Act.eval a' (.tmp 55) = .bool true from ((hF 55 (by decide +kernel)).1 (by decide))) rfl)
                · exact Tl.sm_v 57 _ rfl (Tl.wanted_none rfl) hC rfl (rn_pickF rfl (show Act.eval a' (.tmp 49) = .bool false from ((hF 49 (by decide +kernel)).1 (by decide))) (show Act.eval a' (.tmp 56) = .bool (!true) from ((hF 56 (by decide +kernel)).1 (by decide))))
                intro v' w9 hC hv
                have e57 : v' 57 = .bool (!true) := hv 57 (by decide)
                clear hv
                have HC9 := hid (HW.out.trans (hC.mono HW.out.size))
                clear hC k4 k5 e1 f1 f2 f3 C1
                simp only [Tl.fill, List.drop]
                simp only [Act.put, List.setIfInBounds_toArray, List.set_cons_succ, List.set_cons_zero, e57]
                go_wp2_with fail
                go_roundw
                case rel => exact ⟨k + 1, by omega, by rfl, HO, HC9⟩
                case measure => first | (simp [intOf]; done) | (simp [intOf]; omega)
              | false =>
                go_upto_region 6 with fail
                refine Tl.wp_mix_lit (by kernel_rfl) 34 [24, 25, 26, 27, 28, 29, 30, 31, 32, 33, 34, 35, 36, 37, 38, 39, 40, 41, 42, 43, 44, 45, 46, 47, 48, 49, 50, 51, 52, 53, 54, 55, 56, 57] 62 rfl (by kernel_rfl) (fun W => RowKit.Below wr.heap.size wr W) (rmBF g o n c1 g' o' c2 b k x x0 y ya yl false) ((RowKit.Below.refl _ _).drew)
                  ⟨fun a' W' hC hF => ?_, fun a' W' hC hF => ?_, fun a' W' hC hF => ?_, fun a' W' hC hF => ?_, fun a' W' hC hF => ?_, fun a' W' hC hF => ?_, fun a' W' hC hF => ?_, fun a' W' hC hF => ?_, fun a' W' hC hF => ?_, fun a' W' hC hF => ?_, fun a' W' hC hF => ?_, fun a' W' hC hF => ?_, fun a' W' hC hF => ?_, fun a' W' hC hF => ?_, fun a' W' hC hF => ?_, fun a' W' hC hF => ?_, fun a' W' hC hF => ?_, fun a' W' hC hF => ?_, fun a' W' hC hF => ?_, fun a' W' hC hF => ?_, fun a' W' hC hF => ?_, fun a' W' hC hF => ?_, fun a' W' hC hF => ?_, fun a' W' hC hF => ?_, fun a' W' hC hF => ?_, fun a' W' hC hF => ?_, fun a' W' hC hF => ?_, fun a' W' hC hF => ?_, fun a' W' hC hF => ?_, fun a' W' hC hF => ?_, fun a' W' hC hF => ?_, fun a' W' hC hF => ?_, fun a' W' hC hF => ?_, fun a' W' hC hF => ?_, trivial⟩ ?_
                · exact Tl.sm_v 24 _ rfl (Tl.wanted_none rfl) hC rfl (rn_fa28_3 rfl ((hF 1 (by decide +kernel)).2 (by decide)))
                · exact Tl.sm_v 25 _ rfl (Tl.wanted_none rfl) hC rfl (rn_load25 rfl (show Act.eval a' (.tmp 24) = .pointer (some ⟨b, 4, none⟩) from ((hF 24 (by decide +kernel)).1 (by decide))) ((hC.cell (p := ⟨b, 4, none⟩) HLB.out).trans k4))
                · exact Tl.sm_v 26 _ rfl (Tl.wanted_none rfl) hC rfl (rn_move rfl ((hF 3 (by decide +kernel)).2 (by decide)))
                · exact Tl.sm_v 27 _ rfl (Tl.wanted_none rfl) hC rfl (rn_ix25 rfl (show Act.eval a' (.tmp 25) = .slice (some ⟨g, o, none⟩) n c1 from ((hF 25 (by decide +kernel)).1 (by decide))) (show Act.eval a' (.tmp 26) = .int .i64 (k : Int) from ((hF 26 (by decide +kernel)).1 (by decide))) hlt)
                · exact Tl.sm_v 28 _ rfl (Tl.wanted_none rfl) hC rfl (rn_load9 rfl (show Act.eval a' (.tmp 27) = .pointer (some ⟨g, o + k, none⟩) from ((hF 27 (by decide +kernel)).1 (by decide))) ((hC.cell (p := ⟨g, o + k, none⟩) HLG.out).trans e1))
                · exact Tl.sm_v 29 _ rfl (Tl.wanted_none rfl) hC rfl (rn_len9 rfl (show Act.eval a' (.tmp 28) = .string x from ((hF 28 (by decide +kernel)).1 (by decide))) )
                · exact Tl.sm_v 30 _ rfl (Tl.wanted_none rfl) hC rfl (rn_neq3 rfl (show Act.eval a' (.tmp 29) = .int .i64 (x.size : Int) from ((hF 29 (by decide +kernel)).1 (by decide))) rfl q5)
                · exact Tl.sm_v 31 _ rfl (Tl.wanted_none rfl) hC rfl (rn_move rfl (show Act.eval a' (.tmp 30) = .bool false from ((hF 30 (by decide +kernel)).1 (by decide))))
                · exact Tl.sm_v 32 _ rfl (Tl.wanted_is rfl rfl (show Act.eval a' (.tmp 31) = .bool false from ((hF 31 (by decide +kernel)).1 (by decide)))) hC rfl (rn_move rfl ((hF 3 (by decide +kernel)).2 (by decide)))
                · exact Tl.sm_v 33 _ rfl (Tl.wanted_is rfl rfl (show Act.eval a' (.tmp 31) = .bool false from ((hF 31 (by decide +kernel)).1 (by decide)))) hC rfl (rn_gtr3 rfl (show Act.eval a' (.tmp 32) = .int .i64 (k : Int) from ((hF 32 (by decide +kernel)).1 (by decide))) rfl q6)
                · exact Tl.sm_v 34 _ rfl (Tl.wanted_is rfl rfl (show Act.eval a' (.tmp 31) = .bool false from ((hF 31 (by decide +kernel)).1 (by decide)))) hC rfl (rn_move rfl (show Act.eval a' (.tmp 33) = .bool false from ((hF 33 (by decide +kernel)).1 (by decide))))
                · exact Tl.sm_skip (Tl.wanted_not rfl rfl (show Act.eval a' (.tmp 34) = .bool false from ((hF 34 (by decide +kernel)).1 (by decide)))) (fun d hd => by cases hd; rfl)
                · exact Tl.sm_skip (Tl.wanted_not rfl rfl (show Act.eval a' (.tmp 34) = .bool false from ((hF 34 (by decide +kernel)).1 (by decide)))) (fun d hd => by cases hd; rfl)
                · exact Tl.sm_skip (Tl.wanted_not rfl rfl (show Act.eval a' (.tmp 34) = .bool false from ((hF 34 (by decide +kernel)).1 (by decide)))) (fun d hd => by cases hd; rfl)
                · exact Tl.sm_skip (Tl.wanted_not rfl rfl (show Act.eval a' (.tmp 34) = .bool false from ((hF 34 (by decide +kernel)).1 (by decide)))) (fun d hd => by cases hd; rfl)
                · exact Tl.sm_skip (Tl.wanted_not rfl rfl (show Act.eval a' (.tmp 34) = .bool false from ((hF 34 (by decide +kernel)).1 (by decide)))) (fun d hd => by cases hd; rfl)
                · exact Tl.sm_skip (Tl.wanted_not rfl rfl (show Act.eval a' (.tmp 34) = .bool false from ((hF 34 (by decide +kernel)).1 (by decide)))) (fun d hd => by cases hd; rfl)
                · exact Tl.sm_skip (Tl.wanted_not rfl rfl (show Act.eval a' (.tmp 34) = .bool false from ((hF 34 (by decide +kernel)).1 (by decide)))) (fun d hd => by cases hd; rfl)
                · exact Tl.sm_skip (Tl.wanted_not rfl rfl (show Act.eval a' (.tmp 34) = .bool false from ((hF 34 (by decide +kernel)).1 (by decide)))) (fun d hd => by cases hd; rfl)
                · exact Tl.sm_skip (Tl.wanted_not rfl rfl (show Act.eval a' (.tmp 34) = .bool false from ((hF 34 (by decide +kernel)).1 (by decide)))) (fun d hd => by cases hd; rfl)
                · exact Tl.sm_skip (Tl.wanted_not rfl rfl (show Act.eval a' (.tmp 34) = .bool false from ((hF 34 (by decide +kernel)).1 (by decide)))) (fun d hd => by cases hd; rfl)
                · exact Tl.sm_skip (Tl.wanted_not rfl rfl (show Act.eval a' (.tmp 34) = .bool false from ((hF 34 (by decide +kernel)).1 (by decide)))) (fun d hd => by cases hd; rfl)
                · exact Tl.sm_skip (Tl.wanted_not rfl rfl (show Act.eval a' (.tmp 34) = .bool false from ((hF 34 (by decide +kernel)).1 (by decide)))) (fun d hd => by cases hd; rfl)
                · exact Tl.sm_v 47 _ rfl (Tl.wanted_is rfl rfl (show Act.eval a' (.tmp 31) = .bool false from ((hF 31 (by decide +kernel)).1 (by decide)))) hC rfl (rn_pickF rfl (show Act.eval a' (.tmp 34) = .bool false from ((hF 34 (by decide +kernel)).1 (by decide))) rfl)
                · exact Tl.sm_v 48 _ rfl (Tl.wanted_none rfl) hC rfl (rn_pickF rfl (show Act.eval a' (.tmp 31) = .bool false from ((hF 31 (by decide +kernel)).1 (by decide))) (show Act.eval a' (.tmp 47) = .bool false from ((hF 47 (by decide +kernel)).1 (by decide))))
                · exact Tl.sm_v 49 _ rfl (Tl.wanted_none rfl) hC rfl (rn_move rfl (show Act.eval a' (.tmp 48) = .bool false from ((hF 48 (by decide +kernel)).1 (by decide))))
                · exact Tl.sm_v 50 _ rfl (Tl.wanted_is rfl rfl (show Act.eval a' (.tmp 49) = .bool false from ((hF 49 (by decide +kernel)).1 (by decide)))) hC rfl (rn_fa28_4 rfl ((hF 1 (by decide +kernel)).2 (by decide)))
                · exact Tl.sm_v 51 _ rfl (Tl.wanted_is rfl rfl (show Act.eval a' (.tmp 49) = .bool false from ((hF 49 (by decide +kernel)).1 (by decide)))) hC rfl (rn_load26 rfl (show Act.eval a' (.tmp 50) = .pointer (some ⟨b, 5, none⟩) from ((hF 50 (by decide +kernel)).1 (by decide))) ((hC.cell (p := ⟨b, 5, none⟩) HLB.out).trans k5))
                · exact Tl.sm_v 52 _ rfl (Tl.wanted_is rfl rfl (show Act.eval a' (.tmp 49) = .bool false from ((hF 49 (by decide +kernel)).1 (by decide)))) hC rfl (rn_move rfl ((hF 3 (by decide +kernel)).2 (by decide)))
                · exact Tl.sm_v 53 _ rfl (Tl.wanted_is rfl rfl (show Act.eval a' (.tmp 49) = .bool false from ((hF 49 (by decide +kernel)).1 (by decide)))) hC rfl (rn_ix26 rfl (show Act.eval a' (.tmp 51) = .slice (some ⟨g', o', none⟩) n c2 from ((hF 51 (by decide +kernel)).1 (by decide))) (show Act.eval a' (.tmp 52) = .int .i64 (k : Int) from ((hF 52 (by decide +kernel)).1 (by decide))) hlt)
                · exact Tl.sm_v 54 _ rfl (Tl.wanted_is rfl rfl (show Act.eval a' (.tmp 49) = .bool false from ((hF 49 (by decide +kernel)).1 (by decide)))) hC rfl (rn_load37 rfl (show Act.eval a' (.tmp 53) = .pointer (some ⟨g', o' + k * 3, none⟩) from ((hF 53 (by decide +kernel)).1 (by decide))) ((hC.cell (p := ⟨g', o' + k * 3, none⟩) HLP.out).trans f1) ((hC.cell (p := ⟨g', o' + k * 3 + 1, none⟩) HLP.out).trans f2) ((hC.cell (p := ⟨g', o' + k * 3 + 2, none⟩) HLP.out).trans f3))
                · refine Tl.sm_call 29 #[_] (Tl.wanted_is rfl rfl (show Act.eval a' (.tmp 49) = .bool false from ((hF 49 (by decide +kernel)).1 (by decide)))) (rn_call1 rfl rfl (show Act.eval a' (.tmp 54) = .agg #[.string y, .int .i64 ya, .int .i64 yl] from ((hF 54 (by decide +kernel)).1 (by decide))) (en29 _ _)) ((C1 W').mono ?_)
                  rintro e W'' ⟨rfl, hb⟩
                  exact ⟨_, rfl, hC.trans (hb.mono hC.size), fun d v _ h => h, fun d hd => by cases hd; rfl⟩
                · exact Tl.sm_v 56 _ rfl (Tl.wanted_is rfl rfl (show Act.eval a' (.tmp 49) = .bool false from ((hF 49 (by decide +kernel)).1 (by decide)))) hC rfl (rn_not rfl (show Act.eval a' (.tmp 55) = .bool false from ((hF 55 (by decide +kernel)).1 (by decide))) rfl)
                · exact Tl.sm_v 57 _ rfl (Tl.wanted_none rfl) hC rfl (rn_pickF rfl (show Act.eval a' (.tmp 49) = .bool false from ((hF 49 (by decide +kernel)).1 (by decide))) (show Act.eval a' (.tmp 56) = .bool (!false) from ((hF 56 (by decide +kernel)).1 (by decide))))
                intro v' w9 hC hv
                have e57 : v' 57 = .bool (!false) := hv 57 (by decide)
                clear hv
                have HC9 := hid (HW.out.trans (hC.mono HW.out.size))
                clear hC k4 k5 e1 f1 f2 f3 C1
                simp only [Tl.fill, List.drop]
                simp only [Act.put, List.setIfInBounds_toArray, List.set_cons_succ, List.set_cons_zero, e57]
                go_wp2_with fail
                go_ret
                exact ⟨by rw [HZ.out, okN_mono HO.out (by omega)]; rfl, HB.out.trans (HC9.out.mono HB.out.size)⟩
            · have hk1 : k - 1 < s.C.length := by omega
              have hlt1 : k - 1 < n := by omega
              obtain ⟨g9, o9, e9, _, e0⟩ := tx_cell HC.out HW.out hk1
              obtain ⟨rfl, rfl⟩ : g9 = g ∧ o9 = o := by simp at e9; exact ⟨e9.1.symm, e9.2.symm⟩
              rw [decide_eq_false h0, Bool.false_or] at HO
              have wm : IntKind.i64.wrap ((k : Int) - 1) = ((k - 1 : Nat) : Int) := by rw [IntKind.wrap_i64]; omega
              have q6 : decide ((0 : Int) < (k : Int)) = true := by simp; omega
              clear e9 hk1 h0
              generalize s.C.getD (k - 1) ⟨#[]⟩ = x0 at *
              generalize s.C.getD k ⟨#[]⟩ = x at *
              have q5 : ((x.size : Int) != 32) = false := by rw [bne, q3]; rfl
              cases hlx : lt x0 x with
              | false =>
                rw [hlx] at HO
                have q7 : (!lt x0 x) = true := by rw [hlx]; rfl
                clear hlx
                go_upto_region 6 with fail
                refine Tl.wp_mix_lit (by kernel_rfl) 34 [24, 25, 26, 27, 28, 29, 30, 31, 32, 33, 34, 35, 36, 37, 38, 39, 40, 41, 42, 43, 44, 45, 46, 47, 48, 49, 50, 51, 52, 53, 54, 55, 56, 57] 62 rfl (by kernel_rfl) (fun W => RowKit.Below wr.heap.size wr W) (rmCF g9 o9 n c1 g' o' c2 b k x x0 y ya yl mp) ((RowKit.Below.refl _ _).drew)
                  ⟨fun a' W' hC hF => ?_, fun a' W' hC hF => ?_, fun a' W' hC hF => ?_, fun a' W' hC hF => ?_, fun a' W' hC hF => ?_, fun a' W' hC hF => ?_, fun a' W' hC hF => ?_, fun a' W' hC hF => ?_, fun a' W' hC hF => ?_, fun a' W' hC hF => ?_, fun a' W' hC hF => ?_, fun a' W' hC hF => ?_, fun a' W' hC hF => ?_, fun a' W' hC hF => ?_, fun a' W' hC hF => ?_, fun a' W' hC hF => ?_, fun a' W' hC hF => ?_, fun a' W' hC hF => ?_, fun a' W' hC hF => ?_, fun a' W' hC hF => ?_, fun a' W' hC hF => ?_, fun a' W' hC hF => ?_, fun a' W' hC hF => ?_, fun a' W' hC hF => ?_, fun a' W' hC hF => ?_, fun a' W' hC hF => ?_, fun a' W' hC hF => ?_, fun a' W' hC hF => ?_, fun a' W' hC hF => ?_, fun a' W' hC hF => ?_, fun a' W' hC hF => ?_, fun a' W' hC hF => ?_, fun a' W' hC hF => ?_, fun a' W' hC hF => ?_, trivial⟩ ?_
                · exact Tl.sm_v 24 _ rfl (Tl.wanted_none rfl) hC rfl (rn_fa28_3 rfl ((hF 1 (by decide +kernel)).2 (by decide)))
                · exact Tl.sm_v 25 _ rfl (Tl.wanted_none rfl) hC rfl (rn_load25 rfl (show Act.eval a' (.tmp 24) = .pointer (some ⟨b, 4, none⟩) from ((hF 24 (by decide +kernel)).1 (by decide))) ((hC.cell (p := ⟨b, 4, none⟩) HLB.out).trans k4))
                · exact Tl.sm_v 26 _ rfl (Tl.wanted_none rfl) hC rfl (rn_move rfl ((hF 3 (by decide +kernel)).2 (by decide)))
                · exact Tl.sm_v 27 _ rfl (Tl.wanted_none rfl) hC rfl (rn_ix25 rfl (show Act.eval a' (.tmp 25) = .slice (some ⟨g9, o9, none⟩) n c1 from ((hF 25 (by decide +kernel)).1 (by decide))) (show Act.eval a' (.tmp 26) = .int .i64 (k : Int) from ((hF 26 (by decide +kernel)).1 (by decide))) hlt)
                · exact Tl.sm_v 28 _ rfl (Tl.wanted_none rfl) hC rfl (rn_load9 rfl (show Act.eval a' (.tmp 27) = .pointer (some ⟨g9, o9 + k, none⟩) from ((hF 27 (by decide +kernel)).1 (by decide))) ((hC.cell (p := ⟨g9, o9 + k, none⟩) HLG.out).trans e1))
                · exact Tl.sm_v 29 _ rfl (Tl.wanted_none rfl) hC rfl (rn_len9 rfl (show Act.eval a' (.tmp 28) = .string x from ((hF 28 (by decide +kernel)).1 (by decide))) )
                · exact Tl.sm_v 30 _ rfl (Tl.wanted_none rfl) hC rfl (rn_neq3 rfl (show Act.eval a' (.tmp 29) = .int .i64 (x.size : Int) from ((hF 29 (by decide +kernel)).1 (by decide))) rfl q5)
                · exact Tl.sm_v 31 _ rfl (Tl.wanted_none rfl) hC rfl (rn_move rfl (show Act.eval a' (.tmp 30) = .bool false from ((hF 30 (by decide +kernel)).1 (by decide))))
                · exact Tl.sm_v 32 _ rfl (Tl.wanted_is rfl rfl (show Act.eval a' (.tmp 31) = .bool false from ((hF 31 (by decide +kernel)).1 (by decide)))) hC rfl (rn_move rfl ((hF 3 (by decide +kernel)).2 (by decide)))
                · exact Tl.sm_v 33 _ rfl (Tl.wanted_is rfl rfl (show Act.eval a' (.tmp 31) = .bool false from ((hF 31 (by decide +kernel)).1 (by decide)))) hC rfl (rn_gtr3 rfl (show Act.eval a' (.tmp 32) = .int .i64 (k : Int) from ((hF 32 (by decide +kernel)).1 (by decide))) rfl q6)
                · exact Tl.sm_v 34 _ rfl (Tl.wanted_is rfl rfl (show Act.eval a' (.tmp 31) = .bool false from ((hF 31 (by decide +kernel)).1 (by decide)))) hC rfl (rn_move rfl (show Act.eval a' (.tmp 33) = .bool true from ((hF 33 (by decide +kernel)).1 (by decide))))
                · exact Tl.sm_v 35 _ rfl (Tl.wanted_is rfl rfl (show Act.eval a' (.tmp 34) = .bool true from ((hF 34 (by decide +kernel)).1 (by decide)))) hC rfl (rn_fa28_3 rfl ((hF 1 (by decide +kernel)).2 (by decide)))
                · exact Tl.sm_v 36 _ rfl (Tl.wanted_is rfl rfl (show Act.eval a' (.tmp 34) = .bool true from ((hF 34 (by decide +kernel)).1 (by decide)))) hC rfl (rn_load25 rfl (show Act.eval a' (.tmp 35) = .pointer (some ⟨b, 4, none⟩) from ((hF 35 (by decide +kernel)).1 (by decide))) ((hC.cell (p := ⟨b, 4, none⟩) HLB.out).trans k4))
                · exact Tl.sm_v 37 _ rfl (Tl.wanted_is rfl rfl (show Act.eval a' (.tmp 34) = .bool true from ((hF 34 (by decide +kernel)).1 (by decide)))) hC rfl (rn_move rfl ((hF 3 (by decide +kernel)).2 (by decide)))
                · exact Tl.sm_v 38 _ rfl (Tl.wanted_is rfl rfl (show Act.eval a' (.tmp 34) = .bool true from ((hF 34 (by decide +kernel)).1 (by decide)))) hC rfl (rn_sub3 rfl (show Act.eval a' (.tmp 37) = .int .i64 (k : Int) from ((hF 37 (by decide +kernel)).1 (by decide))) rfl wm)
                · exact Tl.sm_v 39 _ rfl (Tl.wanted_is rfl rfl (show Act.eval a' (.tmp 34) = .bool true from ((hF 34 (by decide +kernel)).1 (by decide)))) hC rfl (rn_ix25 rfl (show Act.eval a' (.tmp 36) = .slice (some ⟨g9, o9, none⟩) n c1 from ((hF 36 (by decide +kernel)).1 (by decide))) (show Act.eval a' (.tmp 38) = .int .i64 ((k - 1 : Nat) : Int) from ((hF 38 (by decide +kernel)).1 (by decide))) hlt1)
                · exact Tl.sm_v 40 _ rfl (Tl.wanted_is rfl rfl (show Act.eval a' (.tmp 34) = .bool true from ((hF 34 (by decide +kernel)).1 (by decide)))) hC rfl (rn_load9 rfl (show Act.eval a' (.tmp 39) = .pointer (some ⟨g9, o9 + (k - 1), none⟩) from ((hF 39 (by decide +kernel)).1 (by decide))) ((hC.cell (p := ⟨g9, o9 + (k - 1), none⟩) HLG.out).trans e0))
                · exact Tl.sm_v 41 _ rfl (Tl.wanted_is rfl rfl (show Act.eval a' (.tmp 34) = .bool true from ((hF 34 (by decide +kernel)).1 (by decide)))) hC rfl (rn_fa28_3 rfl ((hF 1 (by decide +kernel)).2 (by decide)))
                · exact Tl.sm_v 42 _ rfl (Tl.wanted_is rfl rfl (show Act.eval a' (.tmp 34) = .bool true from ((hF 34 (by decide +kernel)).1 (by decide)))) hC rfl (rn_load25 rfl (show Act.eval a' (.tmp 41) = .pointer (some ⟨b, 4, none⟩) from ((hF 41 (by decide +kernel)).1 (by decide))) ((hC.cell (p := ⟨b, 4, none⟩) HLB.out).trans k4))
                · exact Tl.sm_v 43 _ rfl (Tl.wanted_is rfl rfl (show Act.eval a' (.tmp 34) = .bool true from ((hF 34 (by decide +kernel)).1 (by decide)))) hC rfl (rn_move rfl ((hF 3 (by decide +kernel)).2 (by decide)))
                · exact Tl.sm_v 44 _ rfl (Tl.wanted_is rfl rfl (show Act.eval a' (.tmp 34) = .bool true from ((hF 34 (by decide +kernel)).1 (by decide)))) hC rfl (rn_ix25 rfl (show Act.eval a' (.tmp 42) = .slice (some ⟨g9, o9, none⟩) n c1 from ((hF 42 (by decide +kernel)).1 (by decide))) (show Act.eval a' (.tmp 43) = .int .i64 (k : Int) from ((hF 43 (by decide +kernel)).1 (by decide))) hlt)
                · exact Tl.sm_v 45 _ rfl (Tl.wanted_is rfl rfl (show Act.eval a' (.tmp 34) = .bool true from ((hF 34 (by decide +kernel)).1 (by decide)))) hC rfl (rn_load9 rfl (show Act.eval a' (.tmp 44) = .pointer (some ⟨g9, o9 + k, none⟩) from ((hF 44 (by decide +kernel)).1 (by decide))) ((hC.cell (p := ⟨g9, o9 + k, none⟩) HLG.out).trans e1))
                · exact Tl.sm_v 46 _ rfl (Tl.wanted_is rfl rfl (show Act.eval a' (.tmp 34) = .bool true from ((hF 34 (by decide +kernel)).1 (by decide)))) hC rfl (rn_geq9 rfl (show Act.eval a' (.tmp 40) = .string x0 from ((hF 40 (by decide +kernel)).1 (by decide))) (show Act.eval a' (.tmp 45) = .string x from ((hF 45 (by decide +kernel)).1 (by decide))) q7)
                · exact Tl.sm_v 47 _ rfl (Tl.wanted_is rfl rfl (show Act.eval a' (.tmp 31) = .bool false from ((hF 31 (by decide +kernel)).1 (by decide)))) hC rfl (rn_pickT rfl (show Act.eval a' (.tmp 34) = .bool true from ((hF 34 (by decide +kernel)).1 (by decide))) (show Act.eval a' (.tmp 46) = .bool true from ((hF 46 (by decide +kernel)).1 (by decide))))
                · exact Tl.sm_v 48 _ rfl (Tl.wanted_none rfl) hC rfl (rn_pickF rfl (show Act.eval a' (.tmp 31) = .bool false from ((hF 31 (by decide +kernel)).1 (by decide))) (show Act.eval a' (.tmp 47) = .bool true from ((hF 47 (by decide +kernel)).1 (by decide))))
                · exact Tl.sm_v 49 _ rfl (Tl.wanted_none rfl) hC rfl (rn_move rfl (show Act.eval a' (.tmp 48) = .bool true from ((hF 48 (by decide +kernel)).1 (by decide))))
                · exact Tl.sm_skip (Tl.wanted_not rfl rfl (show Act.eval a' (.tmp 49) = .bool true from ((hF 49 (by decide +kernel)).1 (by decide)))) (fun d hd => by cases hd; rfl)
                · exact Tl.sm_skip (Tl.wanted_not rfl rfl (show Act.eval a' (.tmp 49) = .bool true from ((hF 49 (by decide +kernel)).1 (by decide)))) (fun d hd => by cases hd; rfl)
                · exact Tl.sm_skip (Tl.wanted_not rfl rfl (show Act.eval a' (.tmp 49) = .bool true from ((hF 49 (by decide +kernel)).1 (by decide)))) (fun d hd => by cases hd; rfl)
                · exact Tl.sm_skip (Tl.wanted_not rfl rfl (show Act.eval a' (.tmp 49) = .bool true from ((hF 49 (by decide +kernel)).1 (by decide)))) (fun d hd => by cases hd; rfl)
                · exact Tl.sm_skip (Tl.wanted_not rfl rfl (show Act.eval a' (.tmp 49) = .bool true from ((hF 49 (by decide +kernel)).1 (by decide)))) (fun d hd => by cases hd; rfl)
                · exact Tl.sm_skip (Tl.wanted_not rfl rfl (show Act.eval a' (.tmp 49) = .bool true from ((hF 49 (by decide +kernel)).1 (by decide)))) (fun d hd => by cases hd; rfl)
                · exact Tl.sm_skip (Tl.wanted_not rfl rfl (show Act.eval a' (.tmp 49) = .bool true from ((hF 49 (by decide +kernel)).1 (by decide)))) (fun d hd => by cases hd; rfl)
                · exact Tl.sm_v 57 _ rfl (Tl.wanted_none rfl) hC rfl (rn_pickT rfl (show Act.eval a' (.tmp 49) = .bool true from ((hF 49 (by decide +kernel)).1 (by decide))) rfl)
                intro v' w9 hC hv
                have e57 : v' 57 = .bool true := hv 57 (by decide)
                clear hv
                have HC9 := hid (HW.out.trans (hC.mono HW.out.size))
                clear hC k4 k5 e1 f1 f2 f3 C1
                simp only [Tl.fill, List.drop]
                simp only [Act.put, List.setIfInBounds_toArray, List.set_cons_succ, List.set_cons_zero, e57]
                go_wp2_with fail
                go_ret
                exact ⟨by rw [HZ.out, okN_mono HO.out (by omega)]; rfl, HB.out.trans (HC9.out.mono HB.out.size)⟩
              | true =>
                rw [hlx] at HO
                have q7 : (!lt x0 x) = false := by rw [hlx]; rfl
                clear hlx
                cases mp with
                | true =>
                  go_upto_region 6 with fail
                  refine Tl.wp_mix_lit (by kernel_rfl) 34 [24, 25, 26, 27, 28, 29, 30, 31, 32, 33, 34, 35, 36, 37, 38, 39, 40, 41, 42, 43, 44, 45, 46, 47, 48, 49, 50, 51, 52, 53, 54, 55, 56, 57] 62 rfl (by kernel_rfl) (fun W => RowKit.Below wr.heap.size wr W) (rmDF g9 o9 n c1 g' o' c2 b k x x0 y ya yl true) ((RowKit.Below.refl _ _).drew)
                    ⟨fun a' W' hC hF => ?_, fun a' W' hC hF => ?_, fun a' W' hC hF => ?_, fun a' W' hC hF => ?_, fun a' W' hC hF => ?_, fun a' W' hC hF => ?_, fun a' W' hC hF => ?_, fun a' W' hC hF => ?_, fun a' W' hC hF => ?_, fun a' W' hC hF => ?_, fun a' W' hC hF => ?_, fun a' W' hC hF => ?_, fun a' W' hC hF => ?_, fun a' W' hC hF => ?_, fun a' W' hC hF => ?_, fun a' W' hC hF => ?_, fun a' W' hC hF => ?_, fun a' W' hC hF => ?_, fun a' W' hC hF => ?_, fun a' W' hC hF => ?_, fun a' W' hC hF => ?_, fun a' W' hC hF => ?_, fun a' W' hC hF => ?_, fun a' W' hC hF => ?_, fun a' W' hC hF => ?_, fun a' W' hC hF => ?_, fun a' W' hC hF => ?_, fun a' W' hC hF => ?_, fun a' W' hC hF => ?_, fun a' W' hC hF => ?_, fun a' W' hC hF => ?_, fun a' W' hC hF => ?_, fun a' W' hC hF => ?_, fun a' W' hC hF => ?_, trivial⟩ ?_
                  · exact Tl.sm_v 24 _ rfl (Tl.wanted_none rfl) hC rfl (rn_fa28_3 rfl ((hF 1 (by decide +kernel)).2 (by decide)))
                  · exact Tl.sm_v 25 _ rfl (Tl.wanted_none rfl) hC rfl (rn_load25 rfl (show Act.eval a' (.tmp 24) = .pointer (some ⟨b, 4, none⟩) from ((hF 24 (by decide +kernel)).1 (by decide))) ((hC.cell (p := ⟨b, 4, none⟩) HLB.out).trans k4))
                  · exact Tl.sm_v 26 _ rfl (Tl.wanted_none rfl) hC rfl (rn_move rfl ((hF 3 (by decide +kernel)).2 (by decide)))
                  · exact Tl.sm_v 27 _ rfl (Tl.wanted_none rfl) hC rfl (rn_ix25 rfl (show Act.eval a' (.tmp 25) = .slice (some ⟨g9, o9, none⟩) n c1 from ((hF 25 (by decide +kernel)).1 (by decide))) (show Act.eval a' (.tmp 26) = .int .i64 (k : Int) from ((hF 26 (by decide +kernel)).1 (by decide))) hlt)
                  · exact Tl.sm_v 28 _ rfl (Tl.wanted_none rfl) hC rfl (rn_load9 rfl (show Act.eval a' (.tmp 27) = .pointer (some ⟨g9, o9 + k, none⟩) from ((hF 27 (by decide +kernel)).1 (by decide))) ((hC.cell (p := ⟨g9, o9 + k, none⟩) HLG.out).trans e1))
                  · exact Tl.sm_v 29 _ rfl (Tl.wanted_none rfl) hC rfl (rn_len9 rfl (show Act.eval a' (.tmp 28) = .string x from ((hF 28 (by decide +kernel)).1 (by decide))) )
                  · exact Tl.sm_v 30 _ rfl (Tl.wanted_none rfl) hC rfl (rn_neq3 rfl (show Act.eval a' (.tmp 29) = .int .i64 (x.size : Int) from ((hF 29 (by decide +kernel)).1 (by decide))) rfl q5)
                  · exact Tl.sm_v 31 _ rfl (Tl.wanted_none rfl) hC rfl (rn_move rfl (show Act.eval a' (.tmp 30) = .bool false from ((hF 30 (by decide +kernel)).1 (by decide))))
                  · exact Tl.sm_v 32 _ rfl (Tl.wanted_is rfl rfl (show Act.eval a' (.tmp 31) = .bool false from ((hF 31 (by decide +kernel)).1 (by decide)))) hC rfl (rn_move rfl ((hF 3 (by decide +kernel)).2 (by decide)))
                  · exact Tl.sm_v 33 _ rfl (Tl.wanted_is rfl rfl (show Act.eval a' (.tmp 31) = .bool false from ((hF 31 (by decide +kernel)).1 (by decide)))) hC rfl (rn_gtr3 rfl (show Act.eval a' (.tmp 32) = .int .i64 (k : Int) from ((hF 32 (by decide +kernel)).1 (by decide))) rfl q6)
                  · exact Tl.sm_v 34 _ rfl (Tl.wanted_is rfl rfl (show Act.eval a' (.tmp 31) = .bool false from ((hF 31 (by decide +kernel)).1 (by decide)))) hC rfl (rn_move rfl (show Act.eval a' (.tmp 33) = .bool true from ((hF 33 (by decide +kernel)).1 (by decide))))
                  · exact Tl.sm_v 35 _ rfl (Tl.wanted_is rfl rfl (show Act.eval a' (.tmp 34) = .bool true from ((hF 34 (by decide +kernel)).1 (by decide)))) hC rfl (rn_fa28_3 rfl ((hF 1 (by decide +kernel)).2 (by decide)))
                  · exact Tl.sm_v 36 _ rfl (Tl.wanted_is rfl rfl (show Act.eval a' (.tmp 34) = .bool true from ((hF 34 (by decide +kernel)).1 (by decide)))) hC rfl (rn_load25 rfl (show Act.eval a' (.tmp 35) = .pointer (some ⟨b, 4, none⟩) from ((hF 35 (by decide +kernel)).1 (by decide))) ((hC.cell (p := ⟨b, 4, none⟩) HLB.out).trans k4))
                  · exact Tl.sm_v 37 _ rfl (Tl.wanted_is rfl rfl (show Act.eval a' (.tmp 34) = .bool true from ((hF 34 (by decide +kernel)).1 (by decide)))) hC rfl (rn_move rfl ((hF 3 (by decide +kernel)).2 (by decide)))
                  · exact Tl.sm_v 38 _ rfl (Tl.wanted_is rfl rfl (show Act.eval a' (.tmp 34) = .bool true from ((hF 34 (by decide +kernel)).1 (by decide)))) hC rfl (rn_sub3 rfl (show Act.eval a' (.tmp 37) = .int .i64 (k : Int) from ((hF 37 (by decide +kernel)).1 (by decide))) rfl wm)
                  · exact Tl.sm_v 39 _ rfl (Tl.wanted_is rfl rfl (show Act.eval a' (.tmp 34) = .bool true from ((hF 34 (by decide +kernel)).1 (by decide)))) hC rfl (rn_ix25 rfl (show Act.eval a' (.tmp 36) = .slice (some ⟨g9, o9, none⟩) n c1 from ((hF 36 (by decide +kernel)).1 (by decide))) (show Act.eval a' (.tmp 38) = .int .i64 ((k - 1 : Nat) : Int) from ((hF 38 (by decide +kernel)).1 (by decide))) hlt1)
                  · exact Tl.sm_v 40 _ rfl (Tl.wanted_is rfl rfl (show Act.eval a' (.tmp 34) = .bool true from ((hF 34 (by decide +kernel)).1 (by decide)))) hC rfl (rn_load9 rfl (show Act.eval a' (.tmp 39) = .pointer (some ⟨g9, o9 + (k - 1), none⟩) from ((hF 39 (by decide +kernel)).1 (by decide))) ((hC.cell (p := ⟨g9, o9 + (k - 1), none⟩) HLG.out).trans e0))
                  · exact Tl.sm_v 41 _ rfl (Tl.wanted_is rfl rfl (show Act.eval a' (.tmp 34) = .bool true from ((hF 34 (by decide +kernel)).1 (by decide)))) hC rfl (rn_fa28_3 rfl ((hF 1 (by decide +kernel)).2 (by decide)))
                  · exact Tl.sm_v 42 _ rfl (Tl.wanted_is rfl rfl (show Act.eval a' (.tmp 34) = .bool true from ((hF 34 (by decide +kernel)).1 (by decide)))) hC rfl (rn_load25 rfl (show Act.eval a' (.tmp 41) = .pointer (some ⟨b, 4, none⟩) from ((hF 41 (by decide +kernel)).1 (by decide))) ((hC.cell (p := ⟨b, 4, none⟩) HLB.out).trans k4))
                  · exact Tl.sm_v 43 _ rfl (Tl.wanted_is rfl rfl (show Act.eval a' (.tmp 34) = .bool true from ((hF 34 (by decide +kernel)).1 (by decide)))) hC rfl (rn_move rfl ((hF 3 (by decide +kernel)).2 (by decide)))
                  · exact Tl.sm_v 44 _ rfl (Tl.wanted_is rfl rfl (show Act.eval a' (.tmp 34) = .bool true from ((hF 34 (by decide +kernel)).1 (by decide)))) hC rfl (rn_ix25 rfl (show Act.eval a' (.tmp 42) = .slice (some ⟨g9, o9, none⟩) n c1 from ((hF 42 (by decide +kernel)).1 (by decide))) (show Act.eval a' (.tmp 43) = .int .i64 (k : Int) from ((hF 43 (by decide +kernel)).1 (by decide))) hlt)
                  · exact Tl.sm_v 45 _ rfl (Tl.wanted_is rfl rfl (show Act.eval a' (.tmp 34) = .bool true from ((hF 34 (by decide +kernel)).1 (by decide)))) hC rfl (rn_load9 rfl (show Act.eval a' (.tmp 44) = .pointer (some ⟨g9, o9 + k, none⟩) from ((hF 44 (by decide +kernel)).1 (by decide))) ((hC.cell (p := ⟨g9, o9 + k, none⟩) HLG.out).trans e1))
                  · exact Tl.sm_v 46 _ rfl (Tl.wanted_is rfl rfl (show Act.eval a' (.tmp 34) = .bool true from ((hF 34 (by decide +kernel)).1 (by decide)))) hC rfl (rn_geq9 rfl (show Act.eval a' (.tmp 40) = .string x0 from ((hF 40 (by decide +kernel)).1 (by decide))) (show Act.eval a' (.tmp 45) = .string x from ((hF 45 (by decide +kernel)).1 (by decide))) q7)
                  · exact Tl.sm_v 47 _ rfl (Tl.wanted_is rfl rfl (show Act.eval a' (.tmp 31) = .bool false from ((hF 31 (by decide +kernel)).1 (by decide)))) hC rfl (rn_pickT rfl (show Act.eval a' (.tmp 34) = .bool true from ((hF 34 (by decide +kernel)).1 (by decide))) (show Act.eval a' (.tmp 46) = .bool false from ((hF 46 (by decide +kernel)).1 (by decide))))
                  · exact Tl.sm_v 48 _ rfl (Tl.wanted_none rfl) hC rfl (rn_pickF rfl (show Act.eval a' (.tmp 31) = .bool false from ((hF 31 (by decide +kernel)).1 (by decide))) (show Act.eval a' (.tmp 47) = .bool false from ((hF 47 (by decide +kernel)).1 (by decide))))
                  · exact Tl.sm_v 49 _ rfl (Tl.wanted_none rfl) hC rfl (rn_move rfl (show Act.eval a' (.tmp 48) = .bool false from ((hF 48 (by decide +kernel)).1 (by decide))))
                  · exact Tl.sm_v 50 _ rfl (Tl.wanted_is rfl rfl (show Act.eval a' (.tmp 49) = .bool false from ((hF 49 (by decide +kernel)).1 (by decide)))) hC rfl (rn_fa28_4 rfl ((hF 1 (by decide +kernel)).2 (by decide)))
                  · exact Tl.sm_v 51 _ rfl (Tl.wanted_is rfl rfl (show Act.eval a' (.tmp 49) = .bool false from ((hF 49 (by decide +kernel)).1 (by decide)))) hC rfl (rn_load26 rfl (show Act.eval a' (.tmp 50) = .pointer (some ⟨b, 5, none⟩) from ((hF 50 (by decide +kernel)).1 (by decide))) ((hC.cell (p := ⟨b, 5, none⟩) HLB.out).trans k5))
                  · exact Tl.sm_v 52 _ rfl (Tl.wanted_is rfl rfl (show Act.eval a' (.tmp 49) = .bool false from ((hF 49 (by decide +kernel)).1 (by decide)))) hC rfl (rn_move rfl ((hF 3 (by decide +kernel)).2 (by decide)))
                  · exact Tl.sm_v 53 _ rfl (Tl.wanted_is rfl rfl (show Act.eval a' (.tmp 49) = .bool false from ((hF 49 (by decide +kernel)).1 (by decide)))) hC rfl (rn_ix26 rfl (show Act.eval a' (.tmp 51) = .slice (some ⟨g', o', none⟩) n c2 from ((hF 51 (by decide +kernel)).1 (by decide))) (show Act.eval a' (.tmp 52) = .int .i64 (k : Int) from ((hF 52 (by decide +kernel)).1 (by decide))) hlt)
                  · exact Tl.sm_v 54 _ rfl (Tl.wanted_is rfl rfl (show Act.eval a' (.tmp 49) = .bool false from ((hF 49 (by decide +kernel)).1 (by decide)))) hC rfl (rn_load37 rfl (show Act.eval a' (.tmp 53) = .pointer (some ⟨g', o' + k * 3, none⟩) from ((hF 53 (by decide +kernel)).1 (by decide))) ((hC.cell (p := ⟨g', o' + k * 3, none⟩) HLP.out).trans f1) ((hC.cell (p := ⟨g', o' + k * 3 + 1, none⟩) HLP.out).trans f2) ((hC.cell (p := ⟨g', o' + k * 3 + 2, none⟩) HLP.out).trans f3))
                  · refine Tl.sm_call 29 #[_] (Tl.wanted_is rfl rfl (show Act.eval a' (.tmp 49) = .bool false from ((hF 49 (by decide +kernel)).1 (by decide)))) (rn_call1 rfl rfl (show Act.eval a' (.tmp 54) = .agg #[.string y, .int .i64 ya, .int .i64 yl] from ((hF 54 (by decide +kernel)).1 (by decide))) (en29 _ _)) ((C1 W').mono ?_)
                    rintro e W'' ⟨rfl, hb⟩
                    exact ⟨_, rfl, hC.trans (hb.mono hC.size), fun d v _ h => h, fun d hd => by cases hd; rfl⟩
                  · exact Tl.sm_v 56 _ rfl (Tl.wanted_is rfl rfl (show Act.eval a' (.tmp 49) = .bool false from ((hF 49 (by decide +kernel)).1 (by decide)))) hC rfl (rn_not rfl (show Act.eval a' (.tmp 55) = .bool true from ((hF 55 (by decide +kernel)).1 (by decide))) rfl)
                  · exact Tl.sm_v 57 _ rfl (Tl.wanted_none rfl) hC rfl (rn_pickF rfl (show Act.eval a' (.tmp 49) = .bool false from ((hF 49 (by decide +kernel)).1 (by decide))) (show Act.eval a' (.tmp 56) = .bool (!true) from ((hF 56 (by decide +kernel)).1 (by decide))))
                  intro v' w9 hC hv
                  have e57 : v' 57 = .bool (!true) := hv 57 (by decide)
                  clear hv
                  have HC9 := hid (HW.out.trans (hC.mono HW.out.size))
                  clear hC k4 k5 e1 f1 f2 f3 C1
                  simp only [Tl.fill, List.drop]
                  simp only [Act.put, List.setIfInBounds_toArray, List.set_cons_succ, List.set_cons_zero, e57]
                  go_wp2_with fail
                  go_roundw
                  case rel => exact ⟨k + 1, by omega, by rfl, HO, HC9⟩
                  case measure => first | (simp [intOf]; done) | (simp [intOf]; omega)
                | false =>
                  go_upto_region 6 with fail
                  refine Tl.wp_mix_lit (by kernel_rfl) 34 [24, 25, 26, 27, 28, 29, 30, 31, 32, 33, 34, 35, 36, 37, 38, 39, 40, 41, 42, 43, 44, 45, 46, 47, 48, 49, 50, 51, 52, 53, 54, 55, 56, 57] 62 rfl (by kernel_rfl) (fun W => RowKit.Below wr.heap.size wr W) (rmDF g9 o9 n c1 g' o' c2 b k x x0 y ya yl false) ((RowKit.Below.refl _ _).drew)
                    ⟨fun a' W' hC hF => ?_, fun a' W' hC hF => ?_, fun a' W' hC hF => ?_, fun a' W' hC hF => ?_, fun a' W' hC hF => ?_, fun a' W' hC hF => ?_, fun a' W' hC hF => ?_, fun a' W' hC hF => ?_, fun a' W' hC hF => ?_, fun a' W' hC hF => ?_, fun a' W' hC hF => ?_, fun a' W' hC hF => ?_, fun a' W' hC hF => ?_, fun a' W' hC hF => ?_, fun a' W' hC hF => ?_, fun a' W' hC hF => ?_, fun a' W' hC hF => ?_, fun a' W' hC hF => ?_, fun a' W' hC hF => ?_, fun a' W' hC hF => ?_, fun a' W' hC hF => ?_, fun a' W' hC hF => ?_, fun a' W' hC hF => ?_, fun a' W' hC hF => ?_, fun a' W' hC hF => ?_, fun a' W' hC hF => ?_, fun a' W' hC hF => ?_, fun a' W' hC hF => ?_, fun a' W' hC hF => ?_, fun a' W' hC hF => ?_, fun a' W' hC hF => ?_, fun a' W' hC hF => ?_, fun a' W' hC hF => ?_, fun a' W' hC hF => ?_, trivial⟩ ?_
                  · exact Tl.sm_v 24 _ rfl (Tl.wanted_none rfl) hC rfl (rn_fa28_3 rfl ((hF 1 (by decide +kernel)).2 (by decide)))
                  · exact Tl.sm_v 25 _ rfl (Tl.wanted_none rfl) hC rfl (rn_load25 rfl (show Act.eval a' (.tmp 24) = .pointer (some ⟨b, 4, none⟩) from ((hF 24 (by decide +kernel)).1 (by decide))) ((hC.cell (p := ⟨b, 4, none⟩) HLB.out).trans k4))
                  · exact Tl.sm_v 26 _ rfl (Tl.wanted_none rfl) hC rfl (rn_move rfl ((hF 3 (by decide +kernel)).2 (by decide)))
                  · exact Tl.sm_v 27 _ rfl (Tl.wanted_none rfl) hC rfl (rn_ix25 rfl (show Act.eval a' (.tmp 25) = .slice (some ⟨g9, o9, none⟩) n c1 from ((hF 25 (by decide +kernel)).1 (by decide))) (show Act.eval a' (.tmp 26) = .int .i64 (k : Int) from ((hF 26 (by decide +kernel)).1 (by decide))) hlt)
                  · exact Tl.sm_v 28 _ rfl (Tl.wanted_none rfl) hC rfl (rn_load9 rfl (show Act.eval a' (.tmp 27) = .pointer (some ⟨g9, o9 + k, none⟩) from ((hF 27 (by decide +kernel)).1 (by decide))) ((hC.cell (p := ⟨g9, o9 + k, none⟩) HLG.out).trans e1))
                  · exact Tl.sm_v 29 _ rfl (Tl.wanted_none rfl) hC rfl (rn_len9 rfl (show Act.eval a' (.tmp 28) = .string x from ((hF 28 (by decide +kernel)).1 (by decide))) )
                  · exact Tl.sm_v 30 _ rfl (Tl.wanted_none rfl) hC rfl (rn_neq3 rfl (show Act.eval a' (.tmp 29) = .int .i64 (x.size : Int) from ((hF 29 (by decide +kernel)).1 (by decide))) rfl q5)
                  · exact Tl.sm_v 31 _ rfl (Tl.wanted_none rfl) hC rfl (rn_move rfl (show Act.eval a' (.tmp 30) = .bool false from ((hF 30 (by decide +kernel)).1 (by decide))))
                  · exact Tl.sm_v 32 _ rfl (Tl.wanted_is rfl rfl (show Act.eval a' (.tmp 31) = .bool false from ((hF 31 (by decide +kernel)).1 (by decide)))) hC rfl (rn_move rfl ((hF 3 (by decide +kernel)).2 (by decide)))
                  · exact Tl.sm_v 33 _ rfl (Tl.wanted_is rfl rfl (show Act.eval a' (.tmp 31) = .bool false from ((hF 31 (by decide +kernel)).1 (by decide)))) hC rfl (rn_gtr3 rfl (show Act.eval a' (.tmp 32) = .int .i64 (k : Int) from ((hF 32 (by decide +kernel)).1 (by decide))) rfl q6)
                  · exact Tl.sm_v 34 _ rfl (Tl.wanted_is rfl rfl (show Act.eval a' (.tmp 31) = .bool false from ((hF 31 (by decide +kernel)).1 (by decide)))) hC rfl (rn_move rfl (show Act.eval a' (.tmp 33) = .bool true from ((hF 33 (by decide +kernel)).1 (by decide))))
                  · exact Tl.sm_v 35 _ rfl (Tl.wanted_is rfl rfl (show Act.eval a' (.tmp 34) = .bool true from ((hF 34 (by decide +kernel)).1 (by decide)))) hC rfl (rn_fa28_3 rfl ((hF 1 (by decide +kernel)).2 (by decide)))
                  · exact Tl.sm_v 36 _ rfl (Tl.wanted_is rfl rfl (show Act.eval a' (.tmp 34) = .bool true from ((hF 34 (by decide +kernel)).1 (by decide)))) hC rfl (rn_load25 rfl (show Act.eval a' (.tmp 35) = .pointer (some ⟨b, 4, none⟩) from ((hF 35 (by decide +kernel)).1 (by decide))) ((hC.cell (p := ⟨b, 4, none⟩) HLB.out).trans k4))
                  · exact Tl.sm_v 37 _ rfl (Tl.wanted_is rfl rfl (show Act.eval a' (.tmp 34) = .bool true from ((hF 34 (by decide +kernel)).1 (by decide)))) hC rfl (rn_move rfl ((hF 3 (by decide +kernel)).2 (by decide)))
                  · exact Tl.sm_v 38 _ rfl (Tl.wanted_is rfl rfl (show Act.eval a' (.tmp 34) = .bool true from ((hF 34 (by decide +kernel)).1 (by decide)))) hC rfl (rn_sub3 rfl (show Act.eval a' (.tmp 37) = .int .i64 (k : Int) from ((hF 37 (by decide +kernel)).1 (by decide))) rfl wm)
                  · exact Tl.sm_v 39 _ rfl (Tl.wanted_is rfl rfl (show Act.eval a' (.tmp 34) = .bool true from ((hF 34 (by decide +kernel)).1 (by decide)))) hC rfl (rn_ix25 rfl (show Act.eval a' (.tmp 36) = .slice (some ⟨g9, o9, none⟩) n c1 from ((hF 36 (by decide +kernel)).1 (by decide))) (show Act.eval a' (.tmp 38) = .int .i64 ((k - 1 : Nat) : Int) from ((hF 38 (by decide +kernel)).1 (by decide))) hlt1)
                  · exact Tl.sm_v 40 _ rfl (Tl.wanted_is rfl rfl (show Act.eval a' (.tmp 34) = .bool true from ((hF 34 (by decide +kernel)).1 (by decide)))) hC rfl (rn_load9 rfl (show Act.eval a' (.tmp 39) = .pointer (some ⟨g9, o9 + (k - 1), none⟩) from ((hF 39 (by decide +kernel)).1 (by decide))) ((hC.cell (p := ⟨g9, o9 + (k - 1), none⟩) HLG.out).trans e0))
                  · exact Tl.sm_v 41 _ rfl (Tl.wanted_is rfl rfl (show Act.eval a' (.tmp 34) = .bool true from ((hF 34 (by decide +kernel)).1 (by decide)))) hC rfl (rn_fa28_3 rfl ((hF 1 (by decide +kernel)).2 (by decide)))
                  · exact Tl.sm_v 42 _ rfl (Tl.wanted_is rfl rfl (show Act.eval a' (.tmp 34) = .bool true from ((hF 34 (by decide +kernel)).1 (by decide)))) hC rfl (rn_load25 rfl (show Act.eval a' (.tmp 41) = .pointer (some ⟨b, 4, none⟩) from ((hF 41 (by decide +kernel)).1 (by decide))) ((hC.cell (p := ⟨b, 4, none⟩) HLB.out).trans k4))
                  · exact Tl.sm_v 43 _ rfl (Tl.wanted_is rfl rfl (show Act.eval a' (.tmp 34) = .bool true from ((hF 34 (by decide +kernel)).1 (by decide)))) hC rfl (rn_move rfl ((hF 3 (by decide +kernel)).2 (by decide)))
                  · exact Tl.sm_v 44 _ rfl (Tl.wanted_is rfl rfl (show Act.eval a' (.tmp 34) = .bool true from ((hF 34 (by decide +kernel)).1 (by decide)))) hC rfl (rn_ix25 rfl (show Act.eval a' (.tmp 42) = .slice (some ⟨g9, o9, none⟩) n c1 from ((hF 42 (by decide +kernel)).1 (by decide))) (show Act.eval a' (.tmp 43) = .int .i64 (k : Int) from ((hF 43 (by decide +kernel)).1 (by decide))) hlt)
                  · exact Tl.sm_v 45 _ rfl (Tl.wanted_is rfl rfl (show Act.eval a' (.tmp 34) = .bool true from ((hF 34 (by decide +kernel)).1 (by decide)))) hC rfl (rn_load9 rfl (show Act.eval a' (.tmp 44) = .pointer (some ⟨g9, o9 + k, none⟩) from ((hF 44 (by decide +kernel)).1 (by decide))) ((hC.cell (p := ⟨g9, o9 + k, none⟩) HLG.out).trans e1))
                  · exact Tl.sm_v 46 _ rfl (Tl.wanted_is rfl rfl (show Act.eval a' (.tmp 34) = .bool true from ((hF 34 (by decide +kernel)).1 (by decide)))) hC rfl (rn_geq9 rfl (show Act.eval a' (.tmp 40) = .string x0 from ((hF 40 (by decide +kernel)).1 (by decide))) (show Act.eval a' (.tmp 45) = .string x from ((hF 45 (by decide +kernel)).1 (by decide))) q7)
                  · exact Tl.sm_v 47 _ rfl (Tl.wanted_is rfl rfl (show Act.eval a' (.tmp 31) = .bool false from ((hF 31 (by decide +kernel)).1 (by decide)))) hC rfl (rn_pickT rfl (show Act.eval a' (.tmp 34) = .bool true from ((hF 34 (by decide +kernel)).1 (by decide))) (show Act.eval a' (.tmp 46) = .bool false from ((hF 46 (by decide +kernel)).1 (by decide))))
                  · exact Tl.sm_v 48 _ rfl (Tl.wanted_none rfl) hC rfl (rn_pickF rfl (show Act.eval a' (.tmp 31) = .bool false from ((hF 31 (by decide +kernel)).1 (by decide))) (show Act.eval a' (.tmp 47) = .bool false from ((hF 47 (by decide +kernel)).1 (by decide))))
                  · exact Tl.sm_v 49 _ rfl (Tl.wanted_none rfl) hC rfl (rn_move rfl (show Act.eval a' (.tmp 48) = .bool false from ((hF 48 (by decide +kernel)).1 (by decide))))
                  · exact Tl.sm_v 50 _ rfl (Tl.wanted_is rfl rfl (show Act.eval a' (.tmp 49) = .bool false from ((hF 49 (by decide +kernel)).1 (by decide)))) hC rfl (rn_fa28_4 rfl ((hF 1 (by decide +kernel)).2 (by decide)))
                  · exact Tl.sm_v 51 _ rfl (Tl.wanted_is rfl rfl (show Act.eval a' (.tmp 49) = .bool false from ((hF 49 (by decide +kernel)).1 (by decide)))) hC rfl (rn_load26 rfl (show Act.eval a' (.tmp 50) = .pointer (some ⟨b, 5, none⟩) from ((hF 50 (by decide +kernel)).1 (by decide))) ((hC.cell (p := ⟨b, 5, none⟩) HLB.out).trans k5))
                  · exact Tl.sm_v 52 _ rfl (Tl.wanted_is rfl rfl (show Act.eval a' (.tmp 49) = .bool false from ((hF 49 (by decide +kernel)).1 (by decide)))) hC rfl (rn_move rfl ((hF 3 (by decide +kernel)).2 (by decide)))
                  · exact Tl.sm_v 53 _ rfl (Tl.wanted_is rfl rfl (show Act.eval a' (.tmp 49) = .bool false from ((hF 49 (by decide +kernel)).1 (by decide)))) hC rfl (rn_ix26 rfl (show Act.eval a' (.tmp 51) = .slice (some ⟨g', o', none⟩) n c2 from ((hF 51 (by decide +kernel)).1 (by decide))) (show Act.eval a' (.tmp 52) = .int .i64 (k : Int) from ((hF 52 (by decide +kernel)).1 (by decide))) hlt)
                  · exact Tl.sm_v 54 _ rfl (Tl.wanted_is rfl rfl (show Act.eval a' (.tmp 49) = .bool false from ((hF 49 (by decide +kernel)).1 (by decide)))) hC rfl (rn_load37 rfl (show Act.eval a' (.tmp 53) = .pointer (some ⟨g', o' + k * 3, none⟩) from ((hF 53 (by decide +kernel)).1 (by decide))) ((hC.cell (p := ⟨g', o' + k * 3, none⟩) HLP.out).trans f1) ((hC.cell (p := ⟨g', o' + k * 3 + 1, none⟩) HLP.out).trans f2) ((hC.cell (p := ⟨g', o' + k * 3 + 2, none⟩) HLP.out).trans f3))
                  · refine Tl.sm_call 29 #[_] (Tl.wanted_is rfl rfl (show Act.eval a' (.tmp 49) = .bool false from ((hF 49 (by decide +kernel)).1 (by decide)))) (rn_call1 rfl rfl (show Act.eval a' (.tmp 54) = .agg #[.string y, .int .i64 ya, .int .i64 yl] from ((hF 54 (by decide +kernel)).1 (by decide))) (en29 _ _)) ((C1 W').mono ?_)
                    rintro e W'' ⟨rfl, hb⟩
                    exact ⟨_, rfl, hC.trans (hb.mono hC.size), fun d v _ h => h, fun d hd => by cases hd; rfl⟩
                  · exact Tl.sm_v 56 _ rfl (Tl.wanted_is rfl rfl (show Act.eval a' (.tmp 49) = .bool false from ((hF 49 (by decide +kernel)).1 (by decide)))) hC rfl (rn_not rfl (show Act.eval a' (.tmp 55) = .bool false from ((hF 55 (by decide +kernel)).1 (by decide))) rfl)
                  · exact Tl.sm_v 57 _ rfl (Tl.wanted_none rfl) hC rfl (rn_pickF rfl (show Act.eval a' (.tmp 49) = .bool false from ((hF 49 (by decide +kernel)).1 (by decide))) (show Act.eval a' (.tmp 56) = .bool (!false) from ((hF 56 (by decide +kernel)).1 (by decide))))
                  intro v' w9 hC hv
                  have e57 : v' 57 = .bool (!false) := hv 57 (by decide)
                  clear hv
                  have HC9 := hid (HW.out.trans (hC.mono HW.out.size))
                  clear hC k4 k5 e1 f1 f2 f3 C1
                  simp only [Tl.fill, List.drop]
                  simp only [Act.put, List.setIfInBounds_toArray, List.set_cons_succ, List.set_cons_zero, e57]
                  go_wp2_with fail
                  go_ret
                  exact ⟨by rw [HZ.out, okN_mono HO.out (by omega)]; rfl, HB.out.trans (HC9.out.mono HB.out.size)⟩
          · rw [decide_eq_false h3] at q3 HO
            clear h3
            generalize s.C.getD k ⟨#[]⟩ = x at *
            obtain ⟨x0, _⟩ : ∃ x0 : ByteArray, x0 = x := ⟨_, rfl⟩
            have q5 : ((x.size : Int) != 32) = true := by rw [bne, q3]; rfl
            go_upto_region 6 with fail
            refine Tl.wp_mix_lit (by kernel_rfl) 34 [24, 25, 26, 27, 28, 29, 30, 31, 32, 33, 34, 35, 36, 37, 38, 39, 40, 41, 42, 43, 44, 45, 46, 47, 48, 49, 50, 51, 52, 53, 54, 55, 56, 57] 62 rfl (by kernel_rfl) (fun W => RowKit.Below wr.heap.size wr W) (rmAF g o n c1 g' o' c2 b k x x0 y ya yl mp) ((RowKit.Below.refl _ _).drew)
              ⟨fun a' W' hC hF => ?_, fun a' W' hC hF => ?_, fun a' W' hC hF => ?_, fun a' W' hC hF => ?_, fun a' W' hC hF => ?_, fun a' W' hC hF => ?_, fun a' W' hC hF => ?_, fun a' W' hC hF => ?_, fun a' W' hC hF => ?_, fun a' W' hC hF => ?_, fun a' W' hC hF => ?_, fun a' W' hC hF => ?_, fun a' W' hC hF => ?_, fun a' W' hC hF => ?_, fun a' W' hC hF => ?_, fun a' W' hC hF => ?_, fun a' W' hC hF => ?_, fun a' W' hC hF => ?_, fun a' W' hC hF => ?_, fun a' W' hC hF => ?_, fun a' W' hC hF => ?_, fun a' W' hC hF => ?_, fun a' W' hC hF => ?_, fun a' W' hC hF => ?_, fun a' W' hC hF => ?_, fun a' W' hC hF => ?_, fun a' W' hC hF => ?_, fun a' W' hC hF => ?_, fun a' W' hC hF => ?_, fun a' W' hC hF => ?_, fun a' W' hC hF => ?_, fun a' W' hC hF => ?_, fun a' W' hC hF => ?_, fun a' W' hC hF => ?_, trivial⟩ ?_
            · exact Tl.sm_v 24 _ rfl (Tl.wanted_none rfl) hC rfl (rn_fa28_3 rfl ((hF 1 (by decide +kernel)).2 (by decide)))
            · exact Tl.sm_v 25 _ rfl (Tl.wanted_none rfl) hC rfl (rn_load25 rfl (show Act.eval a' (.tmp 24) = .pointer (some ⟨b, 4, none⟩) from ((hF 24 (by decide +kernel)).1 (by decide))) ((hC.cell (p := ⟨b, 4, none⟩) HLB.out).trans k4))
            · exact Tl.sm_v 26 _ rfl (Tl.wanted_none rfl) hC rfl (rn_move rfl ((hF 3 (by decide +kernel)).2 (by decide)))
            · exact Tl.sm_v 27 _ rfl (Tl.wanted_none rfl) hC rfl (rn_ix25 rfl (show Act.eval a' (.tmp 25) = .slice (some ⟨g, o, none⟩) n c1 from ((hF 25 (by decide +kernel)).1 (by decide))) (show Act.eval a' (.tmp 26) = .int .i64 (k : Int) from ((hF 26 (by decide +kernel)).1 (by decide))) hlt)
            · exact Tl.sm_v 28 _ rfl (Tl.wanted_none rfl) hC rfl (rn_load9 rfl (show Act.eval a' (.tmp 27) = .pointer (some ⟨g, o + k, none⟩) from ((hF 27 (by decide +kernel)).1 (by decide))) ((hC.cell (p := ⟨g, o + k, none⟩) HLG.out).trans e1))
            · exact Tl.sm_v 29 _ rfl (Tl.wanted_none rfl) hC rfl (rn_len9 rfl (show Act.eval a' (.tmp 28) = .string x from ((hF 28 (by decide +kernel)).1 (by decide))) )
            · exact Tl.sm_v 30 _ rfl (Tl.wanted_none rfl) hC rfl (rn_neq3 rfl (show Act.eval a' (.tmp 29) = .int .i64 (x.size : Int) from ((hF 29 (by decide +kernel)).1 (by decide))) rfl q5)
            · exact Tl.sm_v 31 _ rfl (Tl.wanted_none rfl) hC rfl (rn_move rfl (show Act.eval a' (.tmp 30) = .bool true from ((hF 30 (by decide +kernel)).1 (by decide))))
            · exact Tl.sm_skip (Tl.wanted_not rfl rfl (show Act.eval a' (.tmp 31) = .bool true from ((hF 31 (by decide +kernel)).1 (by decide)))) (fun d hd => by cases hd; rfl)
            · exact Tl.sm_skip (Tl.wanted_not rfl rfl (show Act.eval a' (.tmp 31) = .bool true from ((hF 31 (by decide +kernel)).1 (by decide)))) (fun d hd => by cases hd; rfl)
            · exact Tl.sm_skip (Tl.wanted_not rfl rfl (show Act.eval a' (.tmp 31) = .bool true from ((hF 31 (by decide +kernel)).1 (by decide)))) (fun d hd => by cases hd; rfl)
            · exact Tl.sm_skip (wanted_un rfl rfl ((hF 34 (by decide +kernel)).1 (by decide))) (fun d hd => by cases hd; rfl)
            · exact Tl.sm_skip (wanted_un rfl rfl ((hF 34 (by decide +kernel)).1 (by decide))) (fun d hd => by cases hd; rfl)
            · exact Tl.sm_skip (wanted_un rfl rfl ((hF 34 (by decide +kernel)).1 (by decide))) (fun d hd => by cases hd; rfl)
            · exact Tl.sm_skip (wanted_un rfl rfl ((hF 34 (by decide +kernel)).1 (by decide))) (fun d hd => by cases hd; rfl)
            · exact Tl.sm_skip (wanted_un rfl rfl ((hF 34 (by decide +kernel)).1 (by decide))) (fun d hd => by cases hd; rfl)
            · exact Tl.sm_skip (wanted_un rfl rfl ((hF 34 (by decide +kernel)).1 (by decide))) (fun d hd => by cases hd; rfl)
            · exact Tl.sm_skip (wanted_un rfl rfl ((hF 34 (by decide +kernel)).1 (by decide))) (fun d hd => by cases hd; rfl)
            · exact Tl.sm_skip (wanted_un rfl rfl ((hF 34 (by decide +kernel)).1 (by decide))) (fun d hd => by cases hd; rfl)
            · exact Tl.sm_skip (wanted_un rfl rfl ((hF 34 (by decide +kernel)).1 (by decide))) (fun d hd => by cases hd; rfl)
            · exact Tl.sm_skip (wanted_un rfl rfl ((hF 34 (by decide +kernel)).1 (by decide))) (fun d hd => by cases hd; rfl)
            · exact Tl.sm_skip (wanted_un rfl rfl ((hF 34 (by decide +kernel)).1 (by decide))) (fun d hd => by cases hd; rfl)
            · exact Tl.sm_skip (wanted_un rfl rfl ((hF 34 (by decide +kernel)).1 (by decide))) (fun d hd => by cases hd; rfl)
            · exact Tl.sm_skip (Tl.wanted_not rfl rfl (show Act.eval a' (.tmp 31) = .bool true from ((hF 31 (by decide +kernel)).1 (by decide)))) (fun d hd => by cases hd; rfl)
            · exact Tl.sm_v 48 _ rfl (Tl.wanted_none rfl) hC rfl (rn_pickT rfl (show Act.eval a' (.tmp 31) = .bool true from ((hF 31 (by decide +kernel)).1 (by decide))) rfl)
            · exact Tl.sm_v 49 _ rfl (Tl.wanted_none rfl) hC rfl (rn_move rfl (show Act.eval a' (.tmp 48) = .bool true from ((hF 48 (by decide +kernel)).1 (by decide))))
            · exact Tl.sm_skip (Tl.wanted_not rfl rfl (show Act.eval a' (.tmp 49) = .bool true from ((hF 49 (by decide +kernel)).1 (by decide)))) (fun d hd => by cases hd; rfl)
            · exact Tl.sm_skip (Tl.wanted_not rfl rfl (show Act.eval a' (.tmp 49) = .bool true from ((hF 49 (by decide +kernel)).1 (by decide)))) (fun d hd => by cases hd; rfl)
            · exact Tl.sm_skip (Tl.wanted_not rfl rfl (show Act.eval a' (.tmp 49) = .bool true from ((hF 49 (by decide +kernel)).1 (by decide)))) (fun d hd => by cases hd; rfl)
            · exact Tl.sm_skip (Tl.wanted_not rfl rfl (show Act.eval a' (.tmp 49) = .bool true from ((hF 49 (by decide +kernel)).1 (by decide)))) (fun d hd => by cases hd; rfl)
            · exact Tl.sm_skip (Tl.wanted_not rfl rfl (show Act.eval a' (.tmp 49) = .bool true from ((hF 49 (by decide +kernel)).1 (by decide)))) (fun d hd => by cases hd; rfl)
            · exact Tl.sm_skip (Tl.wanted_not rfl rfl (show Act.eval a' (.tmp 49) = .bool true from ((hF 49 (by decide +kernel)).1 (by decide)))) (fun d hd => by cases hd; rfl)
            · exact Tl.sm_skip (Tl.wanted_not rfl rfl (show Act.eval a' (.tmp 49) = .bool true from ((hF 49 (by decide +kernel)).1 (by decide)))) (fun d hd => by cases hd; rfl)
            · exact Tl.sm_v 57 _ rfl (Tl.wanted_none rfl) hC rfl (rn_pickT rfl (show Act.eval a' (.tmp 49) = .bool true from ((hF 49 (by decide +kernel)).1 (by decide))) rfl)
            intro v' w9 hC hv
            have e57 : v' 57 = .bool true := hv 57 (by decide)
            clear hv
            have HC9 := hid (HW.out.trans (hC.mono HW.out.size))
            clear hC k4 k5 e1 f1 f2 f3 C1
            simp only [Tl.fill, List.drop]
            simp only [Act.put, List.setIfInBounds_toArray, List.set_cons_succ, List.set_cons_zero, e57]
            go_wp2_with fail
            go_ret
            exact ⟨by rw [HZ.out, okN_mono HO.out (by omega)]; rfl, HB.out.trans (HC9.out.mono HB.out.size)⟩
        · obtain rfl : n = k := by omega
          have j1 : ¬ ((n : Int) < (n : Int)) := by omega
          have hm : ∀ p ∈ s.P, mayP p := fun p hp => by
            obtain ⟨i, hi, e⟩ := List.mem_iff_getElem.1 hp
            have h3 := okN_iff.1 HR.out i (by rw [← HPL.out]; exact hi)
            unfold ok1 at h3
            simp only [Bool.and_eq_true, decide_eq_true_eq] at h3
            have h4 := h3.2
            rw [List.getD_eq_getElem?_getD, List.getElem?_eq_getElem hi] at h4
            rw [← e]; exact h4
          have C2 := HCM.out hm wr HW.out
          have HZ2 : Hid (z = !comN s.P n) := hid (by rw [HZ.out, HR.out, Bool.true_and])
          clear HCM hm HR
          go_wp2_with fail
          refine C2.mono ?_
          rintro e w3 ⟨rfl, b3⟩
          have HB3 := hid (HB.out.trans ((HW.out.trans (b3.mono HW.out.size)).mono HB.out.size))
          clear C2 b3 k4 k5
          go_wp2_with fail
          go_ret
          exact ⟨by rw [HZ2.out]; rfl, HB3.out⟩
  · have q1 : ((n : Int) != (m : Int)) = true := by simp; omega
    have HZ : Hid (z = false) := hid (by rw [HMS.out, decide_eq_false h1]; simp)
    clear h1
    go_wp2_with fail
    go_ret
    exact ⟨by rw [HZ.out]; rfl, HB.out⟩
end Go.Proofs.Ytknddbmnciodaaa
