/- The contract of Tree. -/
import Derived.Test.YtnhekngmgjnodaaDoorTNum
import Derived.Deep.Cut
namespace Go.Proofs.YtnhekngmgjnodaaDoor
open Go.RowKit Go.Maps
open Pa
set_option linter.unusedVariables false
section
variable {ev : Operand → Value} {o : Oper} {w : World} {x y z : Operand}
theorem rn_load38 {g k : Nat} {u0 u1 u2 : Value} (ho : o.op = .load 38 x) (hx : ev x = .pointer (some ⟨g, k, none⟩)) (h0 : w.cell? ⟨g, k, none⟩ = some u0) (h1 : w.cell? ⟨g, k + 1, none⟩ = some u1) (h2 : w.cell? ⟨g, k + 2, none⟩ = some u2) : (execOp ev o).run Tryd.prog w = .ok (.value (.agg #[u0, u1, u2])) w := by
  simp [execOp, ho, hx, go_sem, h0, h1, h2]
theorem rn_geq9 {u v : ByteArray} {c : Bool} (ho : o.op = .binOp .geq 9 x y 9) (hx : ev x = .string u) (hy : ev y = .string v) (hc : (!lt u v) = c) : (execOp ev o).run Tryd.prog w = .ok (.value (.bool c)) w := by
  subst hc; simp [execOp, ho, hx, hy, go_sem, bl]
theorem rn_leq9 {u v : ByteArray} {c : Bool} (ho : o.op = .binOp .leq 9 x y 9) (hx : ev x = .string u) (hy : ev y = .string v) (hc : (!lt v u) = c) : (execOp ev o).run Tryd.prog w = .ok (.value (.bool c)) w := by
  have h := leq_eq u v
  subst hc
  rw [← h]
  simp [execOp, ho, hx, hy, go_sem]
theorem rn_neqE {u : ByteArray} {c : Bool} (ho : o.op = .binOp .neq 9 x (.const (.string ⟨#[]⟩)) 9) (hx : ev x = .string u) (hy : ev (.const (.string ⟨#[]⟩)) = .string ⟨#[]⟩) (hc : (!decide (u.size = 0)) = c) : (execOp ev o).run Tryd.prog w = .ok (.value (.bool c)) w := by
  subst hc
  have h := toLe u
  simp [execOp, ho, hx, hy, go_sem, h]
theorem rn_load4 {g k : Nat} {v : Value} (ho : o.op = .load 4 x) (hx : ev x = .pointer (some ⟨g, k, none⟩)) (hc : w.cell? ⟨g, k, none⟩ = some v) : (execOp ev o).run Tryd.prog w = .ok (.value v) w := by
  simp [execOp, ho, hx, go_sem, hc]
theorem wanted_undef {ops : Array Oper} {o : Oper} {a : Act} {g s : Nat} {b : Bool} (h : o.guard = some (g, b)) (hs : Tl.dstOf ops g = some s) (hv : a.tmps.getD s undef = undef) : Region.wanted o (yielded ops a.tmps) = false := by
  unfold Tl.dstOf at hs
  cases hg : ops[g]? with
  | none => rw [hg] at hs; simp at hs
  | some og =>
    rw [hg] at hs
    simp only [Option.bind_some] at hs
    rw [Array.getD_eq_getD_getElem?] at hv
    cases hq : a.tmps[s]? with
    | none => simp [Region.wanted, h, yielded, hg, hs, hq]
    | some v =>
      rw [hq] at hv
      simp only [Option.getD_some] at hv
      subst hv
      simp [Region.wanted, h, yielded, hg, hs, hq, undef]
theorem en14 (args : Array Value) (w : World) : (callFunc 14 args).run Tryd.prog w = .ok (.enter 14 args) w := by kernel_rfl
theorem en15 (args : Array Value) (w : World) : (callFunc 15 args).run Tryd.prog w = .ok (.enter 15 args) w := by kernel_rfl
theorem en28 (args : Array Value) (w : World) : (callFunc 28 args).run Tryd.prog w = .ok (.enter 28 args) w := by kernel_rfl
theorem en29 (args : Array Value) (w : World) : (callFunc 29 args).run Tryd.prog w = .ok (.enter 29 args) w := by kernel_rfl
end
def trW (x0 x2 : ByteArray) (x1 : Bool) (q mb : Nat) : Nat → Value
  | 56 => .map (some mb)
  | 57 => .pointer (some ⟨q, 0, none⟩)
  | 58 => .string x0
  | 59 => .agg #[.string x0, .bool x1, .string x2]
  | 60 => .int .u8 (kindN x1)
  | _ => undef
def trG (x0 x2 : ByteArray) (x1 : Bool) (q mb : Nat) (d : Nat) (v : Value) (_ : World) : Prop := v = trW x0 x2 x1 q mb d
def trV1 (x0 p0 x2 : ByteArray) (x1 : Bool) (q k g o n c : Nat) : Nat → Value
  | 19 => .pointer (some ⟨q, 0, none⟩)
  | 20 => .string x0
  | 21 => .bool false
  | 22 => .bool true
  | 23 => .bool true
  | 27 => .bool true
  | 28 => .bool true
  | 42 => .bool true
  | _ => undef
def trF1 (x0 p0 x2 : ByteArray) (x1 : Bool) (q k g o n c : Nat) (d : Nat) (v : Value) (_ : World) : Prop := v = trV1 x0 p0 x2 x1 q k g o n c d
def trV2 (x0 p0 x2 : ByteArray) (x1 : Bool) (q k g o n c : Nat) : Nat → Value
  | 19 => .pointer (some ⟨q, 0, none⟩)
  | 20 => .string x0
  | 21 => .bool true
  | 22 => .bool false
  | 23 => .bool false
  | 24 => .agg #[.string x0, .bool x1, .string x2]
  | 25 => .bool false
  | 26 => .bool true
  | 27 => .bool true
  | 28 => .bool true
  | 42 => .bool true
  | _ => undef
def trF2 (x0 p0 x2 : ByteArray) (x1 : Bool) (q k g o n c : Nat) (d : Nat) (v : Value) (_ : World) : Prop := v = trV2 x0 p0 x2 x1 q k g o n c d
def trV3 (x0 p0 x2 : ByteArray) (x1 : Bool) (q k g o n c : Nat) : Nat → Value
  | 19 => .pointer (some ⟨q, 0, none⟩)
  | 20 => .string x0
  | 21 => .bool true
  | 22 => .bool false
  | 23 => .bool false
  | 24 => .agg #[.string x0, .bool x1, .string x2]
  | 25 => .bool true
  | 26 => .bool false
  | 27 => .bool false
  | 28 => .bool false
  | 29 => .int .i64 (k : Int)
  | 30 => .bool false
  | 31 => .bool false
  | 41 => .bool false
  | 42 => .bool false
  | _ => undef
def trF3 (x0 p0 x2 : ByteArray) (x1 : Bool) (q k g o n c : Nat) (d : Nat) (v : Value) (_ : World) : Prop := v = trV3 x0 p0 x2 x1 q k g o n c d
def trV4 (x0 p0 x2 : ByteArray) (x1 : Bool) (q k g o n c : Nat) : Nat → Value
  | 19 => .pointer (some ⟨q, 0, none⟩)
  | 20 => .string x0
  | 21 => .bool true
  | 22 => .bool false
  | 23 => .bool false
  | 24 => .agg #[.string x0, .bool x1, .string x2]
  | 25 => .bool true
  | 26 => .bool false
  | 27 => .bool false
  | 28 => .bool false
  | 29 => .int .i64 (k : Int)
  | 30 => .bool true
  | 31 => .bool true
  | 32 => .slice (some ⟨g, o, none⟩) n c
  | 33 => .int .i64 (k : Int)
  | 34 => .int .i64 ((k - 1 : Nat) : Int)
  | 35 => .pointer (some ⟨g, o + (k - 1) * 3, none⟩)
  | 36 => .pointer (some ⟨g, o + (k - 1) * 3, none⟩)
  | 37 => .string p0
  | 38 => .pointer (some ⟨q, 0, none⟩)
  | 39 => .string x0
  | 40 => .bool false
  | 41 => .bool false
  | 42 => .bool false
  | _ => undef
def trF4 (x0 p0 x2 : ByteArray) (x1 : Bool) (q k g o n c : Nat) (d : Nat) (v : Value) (_ : World) : Prop := v = trV4 x0 p0 x2 x1 q k g o n c d
def trV5 (x0 p0 x2 : ByteArray) (x1 : Bool) (q k g o n c : Nat) : Nat → Value
  | 19 => .pointer (some ⟨q, 0, none⟩)
  | 20 => .string x0
  | 21 => .bool true
  | 22 => .bool false
  | 23 => .bool false
  | 24 => .agg #[.string x0, .bool x1, .string x2]
  | 25 => .bool true
  | 26 => .bool false
  | 27 => .bool false
  | 28 => .bool false
  | 29 => .int .i64 (k : Int)
  | 30 => .bool true
  | 31 => .bool true
  | 32 => .slice (some ⟨g, o, none⟩) n c
  | 33 => .int .i64 (k : Int)
  | 34 => .int .i64 ((k - 1 : Nat) : Int)
  | 35 => .pointer (some ⟨g, o + (k - 1) * 3, none⟩)
  | 36 => .pointer (some ⟨g, o + (k - 1) * 3, none⟩)
  | 37 => .string p0
  | 38 => .pointer (some ⟨q, 0, none⟩)
  | 39 => .string x0
  | 40 => .bool true
  | 41 => .bool true
  | 42 => .bool true
  | _ => undef
def trF5 (x0 p0 x2 : ByteArray) (x1 : Bool) (q k g o n c : Nat) (d : Nat) (v : Value) (_ : World) : Prop := v = trV5 x0 p0 x2 x1 q k g o n c d
set_option maxRecDepth 20000 in
set_option maxHeartbeats 16000000 in
theorem tree_any (l : List Fl) (A : Option Addr) (c : Nat) (hs : Small l) (w : World) (hl : Fs w A l) :
    Calls Tryd.prog 16 #[.slice A l.length c] w fun e w' => e = .returned (.bool (treeP l)) ∧ Below w.heap.size w w' := by
  have HL := hid hl
  have HS := hid hs
  obtain ⟨n, hnn⟩ : ∃ n, n = l.length := ⟨_, rfl⟩
  have HN := hid hnn
  have hn3 : n ≤ 300 := by rw [hnn]; exact hs.1
  obtain ⟨r, hr⟩ : ∃ r, r = treeP l := ⟨_, rfl⟩
  have HR := hid hr
  rw [← hnn, ← hr]
  clear hl hs hnn hr
  by_cases h256 : 256 < n
  · have i2 : (256 : Int) < (n : Int) := by omega
    have hrf : r = false := by rw [HR.out]; unfold treeP; rw [decide_eq_false (by rw [← HN.out]; omega)]; rfl
    subst hrf
    go_enter Tryd.func16, Tryd.ntmps16
    go_wp2_with fail
    go_ret
    exact ⟨rfl, Below.refl _ _⟩
  have i2 : ¬ (256 : Int) < (n : Int) := by omega
  have HTP : Hid (treeP l = (List.range n).all (okP l)) := hid (by unfold treeP; rw [decide_eq_true (by rw [← HN.out]; omega), Bool.true_and, HN.out])
  obtain ⟨mb, hmb⟩ : ∃ mb, mb = w.heap.size := ⟨_, rfl⟩
  have HMB := hid hmb
  obtain ⟨w0, hw0⟩ : ∃ w0, w0 = w.alloc (.map #[] 0) := ⟨_, rfl⟩
  have K0 : Hid (KMap w0 mb (l.take 0)) := hid (by rw [hw0, hmb]; exact KMap.made w)
  have B0 : Hid (Below w.heap.size w w0) := hid (by rw [hw0]; exact (Below.refl _ _).alloc (Nat.le_refl _) _)
  have hmm := @run_makeMap Tryd.prog
  go_enter Tryd.func16, Tryd.ntmps16
  go_upto_region 4 with fail
  rw [← hw0, ← hmb]
  clear hw0 hmb hmm
  go_wp2_with fail
  go_loopw [4, 5, 6, 7, 14] (fun _ _ _ _ v14 wr => ∃ k : Nat, k ≤ n ∧ v14 = .int .i64 (k : Int) ∧ Hid ((List.range k).all (okP l) = true) ∧ Hid (KMap wr mb (l.take k)) ∧ Hid (Below w.heap.size w wr)) (fun _ _ _ _ v14 _ => n - (intOf v14).toNat)
  case atStart => exact ⟨0, Nat.zero_le _, rfl, hid rfl, K0, B0⟩
  case round =>
    obtain ⟨k, hk, rfl, HA, HK, HB⟩ := hrel
    by_cases hlt : k < n
    · have hkl : k < l.length := by rw [← HN.out]; exact hlt
      obtain ⟨g, o, rfl, hg, c0, c1, c2⟩ := fs_cell HL.out HB.out hkl
      have HT := hid (take_next l default k hkl)
      have hpz := (HS.out.2 _ (getF_mem hkl)).1
      have HPZ := hid hpz
      have i1 : (k : Int) < (n : Int) := by omega
      have i0 : (0 : Int) ≤ (k : Int) := by omega
      have wk : IntKind.i64.wrap ((k : Int) + 1) = ((k + 1 : Nat) : Int) := by rw [IntKind.wrap_i64]; omega
      have HOK : Hid (okP l k = (mayB (l.getD k default).path && (holdB (l.getD k default) && ((decide (k = 0) || lt (l.getD (k - 1) default).path (l.getD k default).path) && (!abB (l.getD k default).path || decide (look (l.take k) (abU (l.getD k default).path) = 2)))))) := hid rfl
      have HAS := hid (all_snoc (okP l) k)
      have HAN := hid (fun h => all_not (f := okP l) hlt h)
      have C1 := hid (fun W => may_any (l.getD k default).path W (by omega))
      have C2 := hid (fun W => mayHold_any (l.getD k default) W)
      have C3 := fun W => ahead_any (l.getD k default).path W (by omega)
      have C4 := hid (fun W => kindOf_any (l.getD k default) W)
      have hmx : 1000 ≤ maxLen := by decide
      have hmxl : (l.take k).length < maxLen := by
        have h1 := HS.out.1
        have h2 : (l.take k).length ≤ l.length := by rw [List.length_take]; omega
        omega
      have hmxp : (l.getD k default).path.size ≤ maxLen := by omega
      have HPUT := hid (fun (W : World) (h : KMap W mb (l.take k)) => h.put hmxl (l.getD k default) hmxp)
      rw [← HT.out] at HPUT
      unfold fl3 at C2 C4
      generalize hx : l.getD k default = x at *
      clear hx
      obtain ⟨x0, x1, x2⟩ := x
      dsimp only at c0 c1 c2 hpz HPZ HOK C1 C3 HPUT
      obtain ⟨q, hq⟩ : ∃ q, q = wr.heap.size := ⟨_, rfl⟩
      obtain ⟨wq, hwq⟩ : ∃ wq, wq = wr.alloc (.cells #[.string x0, .bool x1, .string x2] 38) := ⟨_, rfl⟩
      have nq : Has wq q #[.string x0, .bool x1, .string x2] 38 := by rw [hwq]; exact Has.new _ _ _ _ hq
      have hbq : Below wr.heap.size wr wq := by rw [hwq]; exact (Below.refl _ _).alloc (Nat.le_refl _) _
      have q0 := nq.cell 0
      have q1 := nq.cell 1
      have q2 := nq.cell 2
      simp only [List.getElem?_toArray, List.getElem?_cons_zero, List.getElem?_cons_succ] at q0 q1 q2
      have HNQ := hid nq
      have HLQ : Hid (q < wq.heap.size) := hid nq.lt
      have HBQ := hid (HB.out.trans (hbq.mono HB.out.size))
      have HKQ := hid (HK.out.below hbq)
      clear nq hbq HT hmx hmxl hmxp
      cases hm : mayB x0 with
      | false =>
        have hrf : r = false := by rw [HR.out, HTP.out]; exact HAN.out (by rw [HOK.out, hm]; rfl)
        have CM := hid (fun W => (show Calls Tryd.prog 14 #[.string x0] W fun e w' => e = .returned (.bool false) ∧ Below W.heap.size W w' from by have := C1.out W; rwa [hm] at this))
        clear hm C3
        go_upto_region 7 with fail
        rw [← hwq, ← hq]
        clear hwq hq
        refine Tl.wp_mix_lit (by kernel_rfl) 24 [19, 20, 21, 22, 23, 24, 25, 26, 27, 28, 29, 30, 31, 32, 33, 34, 35, 36, 37, 38, 39, 40, 41, 42] 62 rfl (by kernel_rfl) (Below wq.heap.size wq) (trF1 x0 x0 x2 x1 q k g o n c) ((Below.refl _ _).drew)
          ⟨fun a' W' hC hF => ?_, fun a' W' hC hF => ?_, fun a' W' hC hF => ?_, fun a' W' hC hF => ?_, fun a' W' hC hF => ?_, fun a' W' hC hF => ?_, fun a' W' hC hF => ?_, fun a' W' hC hF => ?_, fun a' W' hC hF => ?_, fun a' W' hC hF => ?_, fun a' W' hC hF => ?_, fun a' W' hC hF => ?_, fun a' W' hC hF => ?_, fun a' W' hC hF => ?_, fun a' W' hC hF => ?_, fun a' W' hC hF => ?_, fun a' W' hC hF => ?_, fun a' W' hC hF => ?_, fun a' W' hC hF => ?_, fun a' W' hC hF => ?_, fun a' W' hC hF => ?_, fun a' W' hC hF => ?_, fun a' W' hC hF => ?_, fun a' W' hC hF => ?_, trivial⟩ ?_
        · exact Tl.sm_v 19 _ rfl (Tl.wanted_none rfl) hC rfl (rn_fa38_0 rfl ((hF 5 (by decide +kernel)).2 (by decide)))
        · exact Tl.sm_v 20 _ rfl (Tl.wanted_none rfl) hC rfl (rn_load9 rfl (show Act.eval a' (.tmp 19) = .pointer (some ⟨q, 0, none⟩) from ((hF 19 (by decide +kernel)).1 (by decide))) ((hC.cell (p := ⟨q, 0, none⟩) HLQ.out).trans q0))
        · refine Tl.sm_call 14 #[_] (Tl.wanted_none rfl) (rn_call1 rfl rfl (show Act.eval a' (.tmp 20) = .string x0 from ((hF 20 (by decide +kernel)).1 (by decide))) (en14 _ _)) ((CM.out W').mono ?_)
          rintro e W'' ⟨rfl, hb⟩
          exact ⟨_, rfl, hC.trans (hb.mono hC.size), fun d v _ h => h, fun d hd => by cases hd; rfl⟩
        · exact Tl.sm_v 22 _ rfl (Tl.wanted_none rfl) hC rfl (rn_not rfl (show Act.eval a' (.tmp 21) = .bool false from ((hF 21 (by decide +kernel)).1 (by decide))) rfl)
        · exact Tl.sm_v 23 _ rfl (Tl.wanted_none rfl) hC rfl (rn_move rfl (show Act.eval a' (.tmp 22) = .bool true from ((hF 22 (by decide +kernel)).1 (by decide))))
        · exact Tl.sm_skip (Tl.wanted_not rfl rfl (show Act.eval a' (.tmp 23) = .bool true from ((hF 23 (by decide +kernel)).1 (by decide)))) (fun d hd => by cases hd; rfl)
        · exact Tl.sm_skip (Tl.wanted_not rfl rfl (show Act.eval a' (.tmp 23) = .bool true from ((hF 23 (by decide +kernel)).1 (by decide)))) (fun d hd => by cases hd; rfl)
        · exact Tl.sm_skip (Tl.wanted_not rfl rfl (show Act.eval a' (.tmp 23) = .bool true from ((hF 23 (by decide +kernel)).1 (by decide)))) (fun d hd => by cases hd; rfl)
        · exact Tl.sm_v 27 _ rfl (Tl.wanted_none rfl) hC rfl (rn_pickT rfl (show Act.eval a' (.tmp 23) = .bool true from ((hF 23 (by decide +kernel)).1 (by decide))) rfl)
        · exact Tl.sm_v 28 _ rfl (Tl.wanted_none rfl) hC rfl (rn_move rfl (show Act.eval a' (.tmp 27) = .bool true from ((hF 27 (by decide +kernel)).1 (by decide))))
        · exact Tl.sm_skip (Tl.wanted_not rfl rfl (show Act.eval a' (.tmp 28) = .bool true from ((hF 28 (by decide +kernel)).1 (by decide)))) (fun d hd => by cases hd; rfl)
        · exact Tl.sm_skip (Tl.wanted_not rfl rfl (show Act.eval a' (.tmp 28) = .bool true from ((hF 28 (by decide +kernel)).1 (by decide)))) (fun d hd => by cases hd; rfl)
        · exact Tl.sm_skip (Tl.wanted_not rfl rfl (show Act.eval a' (.tmp 28) = .bool true from ((hF 28 (by decide +kernel)).1 (by decide)))) (fun d hd => by cases hd; rfl)
        · exact Tl.sm_skip (wanted_undef rfl rfl (show Act.eval a' (.tmp 31) = undef from ((hF 31 (by decide +kernel)).1 (by decide)))) (fun d hd => by cases hd; rfl)
        · exact Tl.sm_skip (wanted_undef rfl rfl (show Act.eval a' (.tmp 31) = undef from ((hF 31 (by decide +kernel)).1 (by decide)))) (fun d hd => by cases hd; rfl)
        · exact Tl.sm_skip (wanted_undef rfl rfl (show Act.eval a' (.tmp 31) = undef from ((hF 31 (by decide +kernel)).1 (by decide)))) (fun d hd => by cases hd; rfl)
        · exact Tl.sm_skip (wanted_undef rfl rfl (show Act.eval a' (.tmp 31) = undef from ((hF 31 (by decide +kernel)).1 (by decide)))) (fun d hd => by cases hd; rfl)
        · exact Tl.sm_skip (wanted_undef rfl rfl (show Act.eval a' (.tmp 31) = undef from ((hF 31 (by decide +kernel)).1 (by decide)))) (fun d hd => by cases hd; rfl)
        · exact Tl.sm_skip (wanted_undef rfl rfl (show Act.eval a' (.tmp 31) = undef from ((hF 31 (by decide +kernel)).1 (by decide)))) (fun d hd => by cases hd; rfl)
        · exact Tl.sm_skip (wanted_undef rfl rfl (show Act.eval a' (.tmp 31) = undef from ((hF 31 (by decide +kernel)).1 (by decide)))) (fun d hd => by cases hd; rfl)
        · exact Tl.sm_skip (wanted_undef rfl rfl (show Act.eval a' (.tmp 31) = undef from ((hF 31 (by decide +kernel)).1 (by decide)))) (fun d hd => by cases hd; rfl)
        · exact Tl.sm_skip (wanted_undef rfl rfl (show Act.eval a' (.tmp 31) = undef from ((hF 31 (by decide +kernel)).1 (by decide)))) (fun d hd => by cases hd; rfl)
        · exact Tl.sm_skip (Tl.wanted_not rfl rfl (show Act.eval a' (.tmp 28) = .bool true from ((hF 28 (by decide +kernel)).1 (by decide)))) (fun d hd => by cases hd; rfl)
        · exact Tl.sm_v 42 _ rfl (Tl.wanted_none rfl) hC rfl (rn_pickT rfl (show Act.eval a' (.tmp 28) = .bool true from ((hF 28 (by decide +kernel)).1 (by decide))) rfl)
        intro v' w9 hC hv
        have e42 : v' 42 = .bool true := hv 42 (by decide)
        clear hv
        have HB9 := hid (HBQ.out.trans (hC.mono HBQ.out.size))
        clear hC q0 q1 q2 c0 c1 c2
        simp only [Tl.fill, List.drop]
        simp only [Act.put, List.setIfInBounds_toArray, List.set_cons_succ, List.set_cons_zero, e42]
        subst hrf
        go_wp2_with fail
        go_ret
        exact ⟨rfl, HB9.out⟩
      | true =>
        have CM := hid (fun W => (show Calls Tryd.prog 14 #[.string x0] W fun e w' => e = .returned (.bool true) ∧ Below W.heap.size W w' from by have := C1.out W; rwa [hm] at this))
        cases hh : holdB ⟨x0, x1, x2⟩ with
        | false =>
          have hrf : r = false := by rw [HR.out, HTP.out]; exact HAN.out (by rw [HOK.out, hm, hh]; rfl)
          have CH := hid (fun W => (show Calls Tryd.prog 28 #[.agg #[.string x0, .bool x1, .string x2]] W fun e w' => e = .returned (.bool false) ∧ Below W.heap.size W w' from by have := C2.out W; rwa [hh] at this))
          clear hm hh C3
          go_upto_region 7 with fail
          rw [← hwq, ← hq]
          clear hwq hq
          refine Tl.wp_mix_lit (by kernel_rfl) 24 [19, 20, 21, 22, 23, 24, 25, 26, 27, 28, 29, 30, 31, 32, 33, 34, 35, 36, 37, 38, 39, 40, 41, 42] 62 rfl (by kernel_rfl) (Below wq.heap.size wq) (trF2 x0 x0 x2 x1 q k g o n c) ((Below.refl _ _).drew)
            ⟨fun a' W' hC hF => ?_, fun a' W' hC hF => ?_, fun a' W' hC hF => ?_, fun a' W' hC hF => ?_, fun a' W' hC hF => ?_, fun a' W' hC hF => ?_, fun a' W' hC hF => ?_, fun a' W' hC hF => ?_, fun a' W' hC hF => ?_, fun a' W' hC hF => ?_, fun a' W' hC hF => ?_, fun a' W' hC hF => ?_, fun a' W' hC hF => ?_, fun a' W' hC hF => ?_, fun a' W' hC hF => ?_, fun a' W' hC hF => ?_, fun a' W' hC hF => ?_, fun a' W' hC hF => ?_, fun a' W' hC hF => ?_, fun a' W' hC hF => ?_, fun a' W' hC hF => ?_, fun a' W' hC hF => ?_, fun a' W' hC hF => ?_, fun a' W' hC hF => ?_, trivial⟩ ?_
          · exact Tl.sm_v 19 _ rfl (Tl.wanted_none rfl) hC rfl (rn_fa38_0 rfl ((hF 5 (by decide +kernel)).2 (by decide)))
          · exact Tl.sm_v 20 _ rfl (Tl.wanted_none rfl) hC rfl (rn_load9 rfl (show Act.eval a' (.tmp 19) = .pointer (some ⟨q, 0, none⟩) from ((hF 19 (by decide +kernel)).1 (by decide))) ((hC.cell (p := ⟨q, 0, none⟩) HLQ.out).trans q0))
          · refine Tl.sm_call 14 #[_] (Tl.wanted_none rfl) (rn_call1 rfl rfl (show Act.eval a' (.tmp 20) = .string x0 from ((hF 20 (by decide +kernel)).1 (by decide))) (en14 _ _)) ((CM.out W').mono ?_)
            rintro e W'' ⟨rfl, hb⟩
            exact ⟨_, rfl, hC.trans (hb.mono hC.size), fun d v _ h => h, fun d hd => by cases hd; rfl⟩
          · exact Tl.sm_v 22 _ rfl (Tl.wanted_none rfl) hC rfl (rn_not rfl (show Act.eval a' (.tmp 21) = .bool true from ((hF 21 (by decide +kernel)).1 (by decide))) rfl)
          · exact Tl.sm_v 23 _ rfl (Tl.wanted_none rfl) hC rfl (rn_move rfl (show Act.eval a' (.tmp 22) = .bool false from ((hF 22 (by decide +kernel)).1 (by decide))))
          · exact Tl.sm_v 24 _ rfl (Tl.wanted_is rfl rfl (show Act.eval a' (.tmp 23) = .bool false from ((hF 23 (by decide +kernel)).1 (by decide)))) hC rfl (rn_load38 rfl ((hF 5 (by decide +kernel)).2 (by decide)) ((hC.cell (p := ⟨q, 0, none⟩) HLQ.out).trans q0) ((hC.cell (p := ⟨q, 1, none⟩) HLQ.out).trans q1) ((hC.cell (p := ⟨q, 2, none⟩) HLQ.out).trans q2))
          · refine Tl.sm_call 28 #[_] (Tl.wanted_is rfl rfl (show Act.eval a' (.tmp 23) = .bool false from ((hF 23 (by decide +kernel)).1 (by decide)))) (rn_call1 rfl rfl (show Act.eval a' (.tmp 24) = .agg #[.string x0, .bool x1, .string x2] from ((hF 24 (by decide +kernel)).1 (by decide))) (en28 _ _)) ((CH.out W').mono ?_)
            rintro e W'' ⟨rfl, hb⟩
            exact ⟨_, rfl, hC.trans (hb.mono hC.size), fun d v _ h => h, fun d hd => by cases hd; rfl⟩
          · exact Tl.sm_v 26 _ rfl (Tl.wanted_is rfl rfl (show Act.eval a' (.tmp 23) = .bool false from ((hF 23 (by decide +kernel)).1 (by decide)))) hC rfl (rn_not rfl (show Act.eval a' (.tmp 25) = .bool false from ((hF 25 (by decide +kernel)).1 (by decide))) rfl)
          · exact Tl.sm_v 27 _ rfl (Tl.wanted_none rfl) hC rfl (rn_pickF rfl (show Act.eval a' (.tmp 23) = .bool false from ((hF 23 (by decide +kernel)).1 (by decide))) (show Act.eval a' (.tmp 26) = .bool true from ((hF 26 (by decide +kernel)).1 (by decide))))
          · exact Tl.sm_v 28 _ rfl (Tl.wanted_none rfl) hC rfl (rn_move rfl (show Act.eval a' (.tmp 27) = .bool true from ((hF 27 (by decide +kernel)).1 (by decide))))
          · exact Tl.sm_skip (Tl.wanted_not rfl rfl (show Act.eval a' (.tmp 28) = .bool true from ((hF 28 (by decide +kernel)).1 (by decide)))) (fun d hd => by cases hd; rfl)
          · exact Tl.sm_skip (Tl.wanted_not rfl rfl (show Act.eval a' (.tmp 28) = .bool true from ((hF 28 (by decide +kernel)).1 (by decide)))) (fun d hd => by cases hd; rfl)
          · exact Tl.sm_skip (Tl.wanted_not rfl rfl (show Act.eval a' (.tmp 28) = .bool true from ((hF 28 (by decide +kernel)).1 (by decide)))) (fun d hd => by cases hd; rfl)
          · exact Tl.sm_skip (wanted_undef rfl rfl (show Act.eval a' (.tmp 31) = undef from ((hF 31 (by decide +kernel)).1 (by decide)))) (fun d hd => by cases hd; rfl)
          · exact Tl.sm_skip (wanted_undef rfl rfl (show Act.eval a' (.tmp 31) = undef from ((hF 31 (by decide +kernel)).1 (by decide)))) (fun d hd => by cases hd; rfl)
          · exact Tl.sm_skip (wanted_undef rfl rfl (show Act.eval a' (.tmp 31) = undef from ((hF 31 (by decide +kernel)).1 (by decide)))) (fun d hd => by cases hd; rfl)
          · exact Tl.sm_skip (wanted_undef rfl rfl (show Act.eval a' (.tmp 31) = undef from ((hF 31 (by decide +kernel)).1 (by decide)))) (fun d hd => by cases hd; rfl)
          · exact Tl.sm_skip (wanted_undef rfl rfl (show Act.eval a' (.tmp 31) = undef from ((hF 31 (by decide +kernel)).1 (by decide)))) (fun d hd => by cases hd; rfl)
          · exact Tl.sm_skip (wanted_undef rfl rfl (show Act.eval a' (.tmp 31) = undef from ((hF 31 (by decide +kernel)).1 (by decide)))) (fun d hd => by cases hd; rfl)
          · exact Tl.sm_skip (wanted_undef rfl rfl (show Act.eval a' (.tmp 31) = undef from ((hF 31 (by decide +kernel)).1 (by decide)))) (fun d hd => by cases hd; rfl)
          · exact Tl.sm_skip (wanted_undef rfl rfl (show Act.eval a' (.tmp 31) = undef from ((hF 31 (by decide +kernel)).1 (by decide)))) (fun d hd => by cases hd; rfl)
          · exact Tl.sm_skip (wanted_undef rfl rfl (show Act.eval a' (.tmp 31) = undef from ((hF 31 (by decide +kernel)).1 (by decide)))) (fun d hd => by cases hd; rfl)
          · exact Tl.sm_skip (Tl.wanted_not rfl rfl (show Act.eval a' (.tmp 28) = .bool true from ((hF 28 (by decide +kernel)).1 (by decide)))) (fun d hd => by cases hd; rfl)
          · exact Tl.sm_v 42 _ rfl (Tl.wanted_none rfl) hC rfl (rn_pickT rfl (show Act.eval a' (.tmp 28) = .bool true from ((hF 28 (by decide +kernel)).1 (by decide))) rfl)
          intro v' w9 hC hv
          have e42 : v' 42 = .bool true := hv 42 (by decide)
          clear hv
          have HB9 := hid (HBQ.out.trans (hC.mono HBQ.out.size))
          clear hC q0 q1 q2 c0 c1 c2
          simp only [Tl.fill, List.drop]
          simp only [Act.put, List.setIfInBounds_toArray, List.set_cons_succ, List.set_cons_zero, e42]
          subst hrf
          go_wp2_with fail
          go_ret
          exact ⟨rfl, HB9.out⟩
        | true =>
          have CH := hid (fun W => (show Calls Tryd.prog 28 #[.agg #[.string x0, .bool x1, .string x2]] W fun e w' => e = .returned (.bool true) ∧ Below W.heap.size W w' from by have := C2.out W; rwa [hh] at this))
          by_cases hk0 : k = 0
          · have HOKL : Hid (∀ b : Bool, (mayB x0 && (holdB ⟨x0, x1, x2⟩ && ((decide (k = 0) || lt (l.getD (k - 1) default).path x0) && b))) = b) := hid (fun b => by rw [hm, hh, decide_eq_true hk0]; rfl)
            have HK0 := hid hk0
            clear hm hh hk0
            go_upto_region 7 with fail
            rw [← hwq, ← hq]
            clear hwq hq
            refine Tl.wp_mix_lit (by kernel_rfl) 24 [19, 20, 21, 22, 23, 24, 25, 26, 27, 28, 29, 30, 31, 32, 33, 34, 35, 36, 37, 38, 39, 40, 41, 42] 62 rfl (by kernel_rfl) (Below wq.heap.size wq) (trF3 x0 x0 x2 x1 q k g o n c) ((Below.refl _ _).drew)
              ⟨fun a' W' hC hF => ?_, fun a' W' hC hF => ?_, fun a' W' hC hF => ?_, fun a' W' hC hF => ?_, fun a' W' hC hF => ?_, fun a' W' hC hF => ?_, fun a' W' hC hF => ?_, fun a' W' hC hF => ?_, fun a' W' hC hF => ?_, fun a' W' hC hF => ?_, fun a' W' hC hF => ?_, fun a' W' hC hF => ?_, fun a' W' hC hF => ?_, fun a' W' hC hF => ?_, fun a' W' hC hF => ?_, fun a' W' hC hF => ?_, fun a' W' hC hF => ?_, fun a' W' hC hF => ?_, fun a' W' hC hF => ?_, fun a' W' hC hF => ?_, fun a' W' hC hF => ?_, fun a' W' hC hF => ?_, fun a' W' hC hF => ?_, fun a' W' hC hF => ?_, trivial⟩ ?_
            · exact Tl.sm_v 19 _ rfl (Tl.wanted_none rfl) hC rfl (rn_fa38_0 rfl ((hF 5 (by decide +kernel)).2 (by decide)))
            · exact Tl.sm_v 20 _ rfl (Tl.wanted_none rfl) hC rfl (rn_load9 rfl (show Act.eval a' (.tmp 19) = .pointer (some ⟨q, 0, none⟩) from ((hF 19 (by decide +kernel)).1 (by decide))) ((hC.cell (p := ⟨q, 0, none⟩) HLQ.out).trans q0))
            · refine Tl.sm_call 14 #[_] (Tl.wanted_none rfl) (rn_call1 rfl rfl (show Act.eval a' (.tmp 20) = .string x0 from ((hF 20 (by decide +kernel)).1 (by decide))) (en14 _ _)) ((CM.out W').mono ?_)
              rintro e W'' ⟨rfl, hb⟩
              exact ⟨_, rfl, hC.trans (hb.mono hC.size), fun d v _ h => h, fun d hd => by cases hd; rfl⟩
            · exact Tl.sm_v 22 _ rfl (Tl.wanted_none rfl) hC rfl (rn_not rfl (show Act.eval a' (.tmp 21) = .bool true from ((hF 21 (by decide +kernel)).1 (by decide))) rfl)
            · exact Tl.sm_v 23 _ rfl (Tl.wanted_none rfl) hC rfl (rn_move rfl (show Act.eval a' (.tmp 22) = .bool false from ((hF 22 (by decide +kernel)).1 (by decide))))
            · exact Tl.sm_v 24 _ rfl (Tl.wanted_is rfl rfl (show Act.eval a' (.tmp 23) = .bool false from ((hF 23 (by decide +kernel)).1 (by decide)))) hC rfl (rn_load38 rfl ((hF 5 (by decide +kernel)).2 (by decide)) ((hC.cell (p := ⟨q, 0, none⟩) HLQ.out).trans q0) ((hC.cell (p := ⟨q, 1, none⟩) HLQ.out).trans q1) ((hC.cell (p := ⟨q, 2, none⟩) HLQ.out).trans q2))
            · refine Tl.sm_call 28 #[_] (Tl.wanted_is rfl rfl (show Act.eval a' (.tmp 23) = .bool false from ((hF 23 (by decide +kernel)).1 (by decide)))) (rn_call1 rfl rfl (show Act.eval a' (.tmp 24) = .agg #[.string x0, .bool x1, .string x2] from ((hF 24 (by decide +kernel)).1 (by decide))) (en28 _ _)) ((CH.out W').mono ?_)
              rintro e W'' ⟨rfl, hb⟩
              exact ⟨_, rfl, hC.trans (hb.mono hC.size), fun d v _ h => h, fun d hd => by cases hd; rfl⟩
            · exact Tl.sm_v 26 _ rfl (Tl.wanted_is rfl rfl (show Act.eval a' (.tmp 23) = .bool false from ((hF 23 (by decide +kernel)).1 (by decide)))) hC rfl (rn_not rfl (show Act.eval a' (.tmp 25) = .bool true from ((hF 25 (by decide +kernel)).1 (by decide))) rfl)
            · exact Tl.sm_v 27 _ rfl (Tl.wanted_none rfl) hC rfl (rn_pickF rfl (show Act.eval a' (.tmp 23) = .bool false from ((hF 23 (by decide +kernel)).1 (by decide))) (show Act.eval a' (.tmp 26) = .bool false from ((hF 26 (by decide +kernel)).1 (by decide))))
            · exact Tl.sm_v 28 _ rfl (Tl.wanted_none rfl) hC rfl (rn_move rfl (show Act.eval a' (.tmp 27) = .bool false from ((hF 27 (by decide +kernel)).1 (by decide))))
            · exact Tl.sm_v 29 _ rfl (Tl.wanted_is rfl rfl (show Act.eval a' (.tmp 28) = .bool false from ((hF 28 (by decide +kernel)).1 (by decide)))) hC rfl (rn_move rfl ((hF 4 (by decide +kernel)).2 (by decide)))
            · exact Tl.sm_v 30 _ rfl (Tl.wanted_is rfl rfl (show Act.eval a' (.tmp 28) = .bool false from ((hF 28 (by decide +kernel)).1 (by decide)))) hC rfl (rn_gtr3 rfl (show Act.eval a' (.tmp 29) = .int .i64 (k : Int) from ((hF 29 (by decide +kernel)).1 (by decide))) rfl (by have := HK0.out; simp; omega))
            · exact Tl.sm_v 31 _ rfl (Tl.wanted_is rfl rfl (show Act.eval a' (.tmp 28) = .bool false from ((hF 28 (by decide +kernel)).1 (by decide)))) hC rfl (rn_move rfl (show Act.eval a' (.tmp 30) = .bool false from ((hF 30 (by decide +kernel)).1 (by decide))))
            · exact Tl.sm_skip (Tl.wanted_not rfl rfl (show Act.eval a' (.tmp 31) = .bool false from ((hF 31 (by decide +kernel)).1 (by decide)))) (fun d hd => by cases hd; rfl)
            · exact Tl.sm_skip (Tl.wanted_not rfl rfl (show Act.eval a' (.tmp 31) = .bool false from ((hF 31 (by decide +kernel)).1 (by decide)))) (fun d hd => by cases hd; rfl)
            · exact Tl.sm_skip (Tl.wanted_not rfl rfl (show Act.eval a' (.tmp 31) = .bool false from ((hF 31 (by decide +kernel)).1 (by decide)))) (fun d hd => by cases hd; rfl)
            · exact Tl.sm_skip (Tl.wanted_not rfl rfl (show Act.eval a' (.tmp 31) = .bool false from ((hF 31 (by decide +kernel)).1 (by decide)))) (fun d hd => by cases hd; rfl)
            · exact Tl.sm_skip (Tl.wanted_not rfl rfl (show Act.eval a' (.tmp 31) = .bool false from ((hF 31 (by decide +kernel)).1 (by decide)))) (fun d hd => by cases hd; rfl)
            · exact Tl.sm_skip (Tl.wanted_not rfl rfl (show Act.eval a' (.tmp 31) = .bool false from ((hF 31 (by decide +kernel)).1 (by decide)))) (fun d hd => by cases hd; rfl)
            · exact Tl.sm_skip (Tl.wanted_not rfl rfl (show Act.eval a' (.tmp 31) = .bool false from ((hF 31 (by decide +kernel)).1 (by decide)))) (fun d hd => by cases hd; rfl)
            · exact Tl.sm_skip (Tl.wanted_not rfl rfl (show Act.eval a' (.tmp 31) = .bool false from ((hF 31 (by decide +kernel)).1 (by decide)))) (fun d hd => by cases hd; rfl)
            · exact Tl.sm_skip (Tl.wanted_not rfl rfl (show Act.eval a' (.tmp 31) = .bool false from ((hF 31 (by decide +kernel)).1 (by decide)))) (fun d hd => by cases hd; rfl)
            · exact Tl.sm_v 41 _ rfl (Tl.wanted_is rfl rfl (show Act.eval a' (.tmp 28) = .bool false from ((hF 28 (by decide +kernel)).1 (by decide)))) hC rfl (rn_pickF rfl (show Act.eval a' (.tmp 31) = .bool false from ((hF 31 (by decide +kernel)).1 (by decide))) rfl)
            · exact Tl.sm_v 42 _ rfl (Tl.wanted_none rfl) hC rfl (rn_pickF rfl (show Act.eval a' (.tmp 28) = .bool false from ((hF 28 (by decide +kernel)).1 (by decide))) (show Act.eval a' (.tmp 41) = .bool false from ((hF 41 (by decide +kernel)).1 (by decide))))
            intro v' w9 hC hv
            have e42 : v' 42 = .bool false := hv 42 (by decide)
            clear hv
            have HB9 := hid (HBQ.out.trans (hC.mono HBQ.out.size))
            have HK9 := hid (HKQ.out.below hC)
            have n9 := HNQ.out.below hC HNQ.out.lt
            have z0 := n9.cell 0
            have z1 := n9.cell 1
            have z2 := n9.cell 2
            simp only [List.getElem?_toArray, List.getElem?_cons_zero, List.getElem?_cons_succ] at z0 z1 z2
            have HLQ9 : Hid (q < w9.heap.size) := hid n9.lt
            have hau : (abU x0).size ≤ maxLen := by
              have h1 := ab_size x0
              have h2 := HPZ.out
              have h3 : 1000 ≤ maxLen := by decide
              omega
            have hlk := HK9.out.look (abU x0) hau
            clear hau
            clear hC n9 q0 q1 q2 c0 c1 c2
            generalize look (l.take k) (abU x0) = zk at *
            generalize abU x0 = u at *
            simp only [Tl.fill, List.drop]
            simp only [Act.put, List.setIfInBounds_toArray, List.set_cons_succ, List.set_cons_zero, e42]
            generalize v' 19 = y19 at *
            generalize v' 20 = y20 at *
            generalize v' 21 = y21 at *
            generalize v' 22 = y22 at *
            generalize v' 23 = y23 at *
            generalize v' 24 = y24 at *
            generalize v' 25 = y25 at *
            generalize v' 26 = y26 at *
            generalize v' 27 = y27 at *
            generalize v' 28 = y28 at *
            generalize v' 29 = y29 at *
            generalize v' 30 = y30 at *
            generalize v' 31 = y31 at *
            generalize v' 32 = y32 at *
            generalize v' 33 = y33 at *
            generalize v' 34 = y34 at *
            generalize v' 35 = y35 at *
            generalize v' 36 = y36 at *
            generalize v' 37 = y37 at *
            generalize v' 38 = y38 at *
            generalize v' 39 = y39 at *
            generalize v' 40 = y40 at *
            generalize v' 41 = y41 at *
            cases hab : abB x0 with
            | false =>
              have HA2 : Hid ((List.range (k + 1)).all (okP l) = true) := hid (by rw [HAS.out, HA.out, HOK.out, HOKL.out, hab]; rfl)
              rw [hab] at C3
              clear hab hlk
              go_wp2_with fail
              refine (C3 _).mono ?_
              rintro e wc ⟨rfl, hwc⟩
              rw [hwc]
              clear hwc
              go_wp2_with fail
              refine Tl.wp_mix_lit (by kernel_rfl) 5 [56, 57, 58, 59, 60] 62 rfl (by kernel_rfl) (Below w9.heap.size w9) (trG x0 x2 x1 q mb) ((Below.refl _ _).drew)
                ⟨fun a' W' hC hF => ?_, fun a' W' hC hF => ?_, fun a' W' hC hF => ?_, fun a' W' hC hF => ?_, fun a' W' hC hF => ?_, trivial⟩ ?_
              · exact Tl.sm_v 56 _ rfl (Tl.wanted_none rfl) hC rfl (rn_move rfl ((hF 3 (by decide +kernel)).2 (by decide)))
              · exact Tl.sm_v 57 _ rfl (Tl.wanted_none rfl) hC rfl (rn_fa38_0 rfl ((hF 5 (by decide +kernel)).2 (by decide)))
              · exact Tl.sm_v 58 _ rfl (Tl.wanted_none rfl) hC rfl (rn_load9 rfl (show Act.eval a' (.tmp 57) = .pointer (some ⟨q, 0, none⟩) from ((hF 57 (by decide +kernel)).1 (by decide))) ((hC.cell (p := ⟨q, 0, none⟩) HLQ9.out).trans z0))
              · exact Tl.sm_v 59 _ rfl (Tl.wanted_none rfl) hC rfl (rn_load38 rfl ((hF 5 (by decide +kernel)).2 (by decide)) ((hC.cell (p := ⟨q, 0, none⟩) HLQ9.out).trans z0) ((hC.cell (p := ⟨q, 1, none⟩) HLQ9.out).trans z1) ((hC.cell (p := ⟨q, 2, none⟩) HLQ9.out).trans z2))
              · refine Tl.sm_call 29 #[_] (Tl.wanted_none rfl) (rn_call1 rfl rfl (show Act.eval a' (.tmp 59) = .agg #[.string x0, .bool x1, .string x2] from ((hF 59 (by decide +kernel)).1 (by decide))) (en29 _ _)) ((C4.out W').mono ?_)
                rintro e W'' ⟨rfl, hb⟩
                exact ⟨_, rfl, hC.trans (hb.mono hC.size), fun d v _ h => h, fun d hd => by cases hd; rfl⟩
              intro v'' w10 hC2 hv2
              have e56 : v'' 56 = .map (some mb) := hv2 56 (by decide)
              have e58 : v'' 58 = .string x0 := hv2 58 (by decide)
              have e60 : v'' 60 = .int .u8 (kindN x1) := hv2 60 (by decide)
              clear hv2
              have HB10 := hid (HB9.out.trans (hC2.mono HB9.out.size))
              obtain ⟨w11, hrun, hk11, hg11⟩ := HPUT.out _ (HK9.out.below hC2)
              have HK11 := hid hk11
              have HB11 := hid (HB10.out.grown hg11 HB10.out.size (fun j hj => by cases hj; rw [HMB.out]; exact Nat.le_refl _))
              clear hC2 hk11 hg11 z0 z1 z2
              simp only [Tl.fill, List.drop]
              simp only [Act.put, List.setIfInBounds_toArray, List.set_cons_succ, List.set_cons_zero, e56, e58, e60]
              generalize v'' 57 = y57 at *
              generalize v'' 59 = y59 at *
              clear e56 e58 e60
              go_wp2_with fail
              go_roundw
              case rel => exact ⟨k + 1, by omega, by rfl, HA2, HK11, HB11⟩
              case measure => first | (simp [intOf]; done) | (simp [intOf]; omega)
            | true =>
              rw [hab] at C3
              by_cases h2 : zk = 2
              · subst h2
                have HA2 : Hid ((List.range (k + 1)).all (okP l) = true) := hid (by rw [HAS.out, HA.out, HOK.out, HOKL.out, hab]; rfl)
                clear hab
                go_wp2_with fail
                refine (C3 _).mono ?_
                rintro e wc ⟨rfl, hwc⟩
                rw [hwc]
                clear hwc
                go_wp2_with fail
                refine Tl.wp_mix_lit (by kernel_rfl) 5 [56, 57, 58, 59, 60] 62 rfl (by kernel_rfl) (Below w9.heap.size w9) (trG x0 x2 x1 q mb) ((Below.refl _ _).drew)
                  ⟨fun a' W' hC hF => ?_, fun a' W' hC hF => ?_, fun a' W' hC hF => ?_, fun a' W' hC hF => ?_, fun a' W' hC hF => ?_, trivial⟩ ?_
                · exact Tl.sm_v 56 _ rfl (Tl.wanted_none rfl) hC rfl (rn_move rfl ((hF 3 (by decide +kernel)).2 (by decide)))
                · exact Tl.sm_v 57 _ rfl (Tl.wanted_none rfl) hC rfl (rn_fa38_0 rfl ((hF 5 (by decide +kernel)).2 (by decide)))
                · exact Tl.sm_v 58 _ rfl (Tl.wanted_none rfl) hC rfl (rn_load9 rfl (show Act.eval a' (.tmp 57) = .pointer (some ⟨q, 0, none⟩) from ((hF 57 (by decide +kernel)).1 (by decide))) ((hC.cell (p := ⟨q, 0, none⟩) HLQ9.out).trans z0))
                · exact Tl.sm_v 59 _ rfl (Tl.wanted_none rfl) hC rfl (rn_load38 rfl ((hF 5 (by decide +kernel)).2 (by decide)) ((hC.cell (p := ⟨q, 0, none⟩) HLQ9.out).trans z0) ((hC.cell (p := ⟨q, 1, none⟩) HLQ9.out).trans z1) ((hC.cell (p := ⟨q, 2, none⟩) HLQ9.out).trans z2))
                · refine Tl.sm_call 29 #[_] (Tl.wanted_none rfl) (rn_call1 rfl rfl (show Act.eval a' (.tmp 59) = .agg #[.string x0, .bool x1, .string x2] from ((hF 59 (by decide +kernel)).1 (by decide))) (en29 _ _)) ((C4.out W').mono ?_)
                  rintro e W'' ⟨rfl, hb⟩
                  exact ⟨_, rfl, hC.trans (hb.mono hC.size), fun d v _ h => h, fun d hd => by cases hd; rfl⟩
                intro v'' w10 hC2 hv2
                have e56 : v'' 56 = .map (some mb) := hv2 56 (by decide)
                have e58 : v'' 58 = .string x0 := hv2 58 (by decide)
                have e60 : v'' 60 = .int .u8 (kindN x1) := hv2 60 (by decide)
                clear hv2
                have HB10 := hid (HB9.out.trans (hC2.mono HB9.out.size))
                obtain ⟨w11, hrun, hk11, hg11⟩ := HPUT.out _ (HK9.out.below hC2)
                have HK11 := hid hk11
                have HB11 := hid (HB10.out.grown hg11 HB10.out.size (fun j hj => by cases hj; rw [HMB.out]; exact Nat.le_refl _))
                clear hC2 hk11 hg11 z0 z1 z2
                simp only [Tl.fill, List.drop]
                simp only [Act.put, List.setIfInBounds_toArray, List.set_cons_succ, List.set_cons_zero, e56, e58, e60]
                generalize v'' 57 = y57 at *
                generalize v'' 59 = y59 at *
                clear e56 e58 e60
                go_wp2_with fail
                go_roundw
                case rel => exact ⟨k + 1, by omega, by rfl, HA2, HK11, HB11⟩
                case measure => first | (simp [intOf]; done) | (simp [intOf]; omega)
              · have hrf : r = false := by rw [HR.out, HTP.out]; exact HAN.out (by rw [HOK.out, HOKL.out, hab, decide_eq_false h2]; rfl)
                subst hrf
                have h3 : (zk == 2) = false := by simpa using h2
                clear hab
                go_wp2_with fail
                refine (C3 _).mono ?_
                rintro e wc ⟨rfl, hwc⟩
                rw [hwc]
                clear hwc
                go_wp2_with fail
                go_ret
                exact ⟨rfl, HB9.out⟩
          · have hk1 : k - 1 < l.length := by omega
            have HK0 := hid hk0
            obtain ⟨g', o', eA, hg', d0, _, _⟩ := fs_cell HL.out HB.out hk1
            obtain ⟨rfl, rfl⟩ : g = g' ∧ o = o' := by simpa using eA
            have wn : IntKind.i64.wrap ((k : Int) - 1) = ((k - 1 : Nat) : Int) := by rw [IntKind.wrap_i64]; omega
            have HLG : Hid (g < wq.heap.size) := hid (Nat.lt_of_lt_of_le hg HBQ.out.size)
            have d0 := (show wq.cell? ⟨g, o + (k - 1) * 3, none⟩ = some (.string (l.getD (k - 1) default).path) from by rw [hwq]; exact ((Below.refl wr.heap.size wr).alloc (Nat.le_refl _) _).cell (p := ⟨g, o + (k - 1) * 3, none⟩) (Nat.lt_of_lt_of_le hg HB.out.size) |>.trans d0)
            generalize (l.getD (k - 1) default).path = p0 at *
            cases hlp : lt p0 x0 with
            | true =>
              have HOKL : Hid (∀ b : Bool, (mayB x0 && (holdB ⟨x0, x1, x2⟩ && ((decide (k = 0) || lt p0 x0) && b))) = b) := hid (fun b => by rw [hm, hh, hlp, Bool.or_true]; rfl)
              have hge : (!lt p0 x0) = false := by rw [hlp]; rfl
              clear hm hh hlp
              go_upto_region 7 with fail
              rw [← hwq, ← hq]
              clear hwq hq
              refine Tl.wp_mix_lit (by kernel_rfl) 24 [19, 20, 21, 22, 23, 24, 25, 26, 27, 28, 29, 30, 31, 32, 33, 34, 35, 36, 37, 38, 39, 40, 41, 42] 62 rfl (by kernel_rfl) (Below wq.heap.size wq) (trF4 x0 p0 x2 x1 q k g o n c) ((Below.refl _ _).drew)
                ⟨fun a' W' hC hF => ?_, fun a' W' hC hF => ?_, fun a' W' hC hF => ?_, fun a' W' hC hF => ?_, fun a' W' hC hF => ?_, fun a' W' hC hF => ?_, fun a' W' hC hF => ?_, fun a' W' hC hF => ?_, fun a' W' hC hF => ?_, fun a' W' hC hF => ?_, fun a' W' hC hF => ?_, fun a' W' hC hF => ?_, fun a' W' hC hF => ?_, fun a' W' hC hF => ?_, fun a' W' hC hF => ?_, fun a' W' hC hF => ?_, fun a' W' hC hF => ?_, fun a' W' hC hF => ?_, fun a' W' hC hF => ?_, fun a' W' hC hF => ?_, fun a' W' hC hF => ?_, fun a' W' hC hF => ?_, fun a' W' hC hF => ?_, fun a' W' hC hF => ?_, trivial⟩ ?_
              · exact Tl.sm_v 19 _ rfl (Tl.wanted_none rfl) hC rfl (rn_fa38_0 rfl ((hF 5 (by decide +kernel)).2 (by decide)))
              · exact Tl.sm_v 20 _ rfl (Tl.wanted_none rfl) hC rfl (rn_load9 rfl (show Act.eval a' (.tmp 19) = .pointer (some ⟨q, 0, none⟩) from ((hF 19 (by decide +kernel)).1 (by decide))) ((hC.cell (p := ⟨q, 0, none⟩) HLQ.out).trans q0))
              · refine Tl.sm_call 14 #[_] (Tl.wanted_none rfl) (rn_call1 rfl rfl (show Act.eval a' (.tmp 20) = .string x0 from ((hF 20 (by decide +kernel)).1 (by decide))) (en14 _ _)) ((CM.out W').mono ?_)
                rintro e W'' ⟨rfl, hb⟩
                exact ⟨_, rfl, hC.trans (hb.mono hC.size), fun d v _ h => h, fun d hd => by cases hd; rfl⟩
              · exact Tl.sm_v 22 _ rfl (Tl.wanted_none rfl) hC rfl (rn_not rfl (show Act.eval a' (.tmp 21) = .bool true from ((hF 21 (by decide +kernel)).1 (by decide))) rfl)
              · exact Tl.sm_v 23 _ rfl (Tl.wanted_none rfl) hC rfl (rn_move rfl (show Act.eval a' (.tmp 22) = .bool false from ((hF 22 (by decide +kernel)).1 (by decide))))
              · exact Tl.sm_v 24 _ rfl (Tl.wanted_is rfl rfl (show Act.eval a' (.tmp 23) = .bool false from ((hF 23 (by decide +kernel)).1 (by decide)))) hC rfl (rn_load38 rfl ((hF 5 (by decide +kernel)).2 (by decide)) ((hC.cell (p := ⟨q, 0, none⟩) HLQ.out).trans q0) ((hC.cell (p := ⟨q, 1, none⟩) HLQ.out).trans q1) ((hC.cell (p := ⟨q, 2, none⟩) HLQ.out).trans q2))
              · refine Tl.sm_call 28 #[_] (Tl.wanted_is rfl rfl (show Act.eval a' (.tmp 23) = .bool false from ((hF 23 (by decide +kernel)).1 (by decide)))) (rn_call1 rfl rfl (show Act.eval a' (.tmp 24) = .agg #[.string x0, .bool x1, .string x2] from ((hF 24 (by decide +kernel)).1 (by decide))) (en28 _ _)) ((CH.out W').mono ?_)
                rintro e W'' ⟨rfl, hb⟩
                exact ⟨_, rfl, hC.trans (hb.mono hC.size), fun d v _ h => h, fun d hd => by cases hd; rfl⟩
              · exact Tl.sm_v 26 _ rfl (Tl.wanted_is rfl rfl (show Act.eval a' (.tmp 23) = .bool false from ((hF 23 (by decide +kernel)).1 (by decide)))) hC rfl (rn_not rfl (show Act.eval a' (.tmp 25) = .bool true from ((hF 25 (by decide +kernel)).1 (by decide))) rfl)
              · exact Tl.sm_v 27 _ rfl (Tl.wanted_none rfl) hC rfl (rn_pickF rfl (show Act.eval a' (.tmp 23) = .bool false from ((hF 23 (by decide +kernel)).1 (by decide))) (show Act.eval a' (.tmp 26) = .bool false from ((hF 26 (by decide +kernel)).1 (by decide))))
              · exact Tl.sm_v 28 _ rfl (Tl.wanted_none rfl) hC rfl (rn_move rfl (show Act.eval a' (.tmp 27) = .bool false from ((hF 27 (by decide +kernel)).1 (by decide))))
              · exact Tl.sm_v 29 _ rfl (Tl.wanted_is rfl rfl (show Act.eval a' (.tmp 28) = .bool false from ((hF 28 (by decide +kernel)).1 (by decide)))) hC rfl (rn_move rfl ((hF 4 (by decide +kernel)).2 (by decide)))
              · exact Tl.sm_v 30 _ rfl (Tl.wanted_is rfl rfl (show Act.eval a' (.tmp 28) = .bool false from ((hF 28 (by decide +kernel)).1 (by decide)))) hC rfl (rn_gtr3 rfl (show Act.eval a' (.tmp 29) = .int .i64 (k : Int) from ((hF 29 (by decide +kernel)).1 (by decide))) rfl (by have := HK0.out; simp; omega))
              · exact Tl.sm_v 31 _ rfl (Tl.wanted_is rfl rfl (show Act.eval a' (.tmp 28) = .bool false from ((hF 28 (by decide +kernel)).1 (by decide)))) hC rfl (rn_move rfl (show Act.eval a' (.tmp 30) = .bool true from ((hF 30 (by decide +kernel)).1 (by decide))))
              · exact Tl.sm_v 32 _ rfl (Tl.wanted_is rfl rfl (show Act.eval a' (.tmp 31) = .bool true from ((hF 31 (by decide +kernel)).1 (by decide)))) hC rfl (rn_move rfl ((hF 0 (by decide +kernel)).2 (by decide)))
              · exact Tl.sm_v 33 _ rfl (Tl.wanted_is rfl rfl (show Act.eval a' (.tmp 31) = .bool true from ((hF 31 (by decide +kernel)).1 (by decide)))) hC rfl (rn_move rfl ((hF 4 (by decide +kernel)).2 (by decide)))
              · exact Tl.sm_v 34 _ rfl (Tl.wanted_is rfl rfl (show Act.eval a' (.tmp 31) = .bool true from ((hF 31 (by decide +kernel)).1 (by decide)))) hC rfl (rn_sub3 rfl (show Act.eval a' (.tmp 33) = .int .i64 (k : Int) from ((hF 33 (by decide +kernel)).1 (by decide))) rfl wn)
              · exact Tl.sm_v 35 _ rfl (Tl.wanted_is rfl rfl (show Act.eval a' (.tmp 31) = .bool true from ((hF 31 (by decide +kernel)).1 (by decide)))) hC rfl (rn_ix22 rfl (show Act.eval a' (.tmp 32) = .slice (some ⟨g, o, none⟩) n c from ((hF 32 (by decide +kernel)).1 (by decide))) (show Act.eval a' (.tmp 34) = .int .i64 ((k - 1 : Nat) : Int) from ((hF 34 (by decide +kernel)).1 (by decide))) (by omega))
              · exact Tl.sm_v 36 _ rfl (Tl.wanted_is rfl rfl (show Act.eval a' (.tmp 31) = .bool true from ((hF 31 (by decide +kernel)).1 (by decide)))) hC rfl (rn_fa38_0 rfl (show Act.eval a' (.tmp 35) = .pointer (some ⟨g, o + (k - 1) * 3, none⟩) from ((hF 35 (by decide +kernel)).1 (by decide))))
              · exact Tl.sm_v 37 _ rfl (Tl.wanted_is rfl rfl (show Act.eval a' (.tmp 31) = .bool true from ((hF 31 (by decide +kernel)).1 (by decide)))) hC rfl (rn_load9 rfl (show Act.eval a' (.tmp 36) = .pointer (some ⟨g, o + (k - 1) * 3, none⟩) from ((hF 36 (by decide +kernel)).1 (by decide))) ((hC.cell (p := ⟨g, o + (k - 1) * 3, none⟩) HLG.out).trans d0))
              · exact Tl.sm_v 38 _ rfl (Tl.wanted_is rfl rfl (show Act.eval a' (.tmp 31) = .bool true from ((hF 31 (by decide +kernel)).1 (by decide)))) hC rfl (rn_fa38_0 rfl ((hF 5 (by decide +kernel)).2 (by decide)))
              · exact Tl.sm_v 39 _ rfl (Tl.wanted_is rfl rfl (show Act.eval a' (.tmp 31) = .bool true from ((hF 31 (by decide +kernel)).1 (by decide)))) hC rfl (rn_load9 rfl (show Act.eval a' (.tmp 38) = .pointer (some ⟨q, 0, none⟩) from ((hF 38 (by decide +kernel)).1 (by decide))) ((hC.cell (p := ⟨q, 0, none⟩) HLQ.out).trans q0))
              · exact Tl.sm_v 40 _ rfl (Tl.wanted_is rfl rfl (show Act.eval a' (.tmp 31) = .bool true from ((hF 31 (by decide +kernel)).1 (by decide)))) hC rfl (rn_geq9 rfl (show Act.eval a' (.tmp 37) = .string p0 from ((hF 37 (by decide +kernel)).1 (by decide))) (show Act.eval a' (.tmp 39) = .string x0 from ((hF 39 (by decide +kernel)).1 (by decide))) (hge))
              · exact Tl.sm_v 41 _ rfl (Tl.wanted_is rfl rfl (show Act.eval a' (.tmp 28) = .bool false from ((hF 28 (by decide +kernel)).1 (by decide)))) hC rfl (rn_pickT rfl (show Act.eval a' (.tmp 31) = .bool true from ((hF 31 (by decide +kernel)).1 (by decide))) (show Act.eval a' (.tmp 40) = .bool false from ((hF 40 (by decide +kernel)).1 (by decide))))
              · exact Tl.sm_v 42 _ rfl (Tl.wanted_none rfl) hC rfl (rn_pickF rfl (show Act.eval a' (.tmp 28) = .bool false from ((hF 28 (by decide +kernel)).1 (by decide))) (show Act.eval a' (.tmp 41) = .bool false from ((hF 41 (by decide +kernel)).1 (by decide))))
              intro v' w9 hC hv
              have e42 : v' 42 = .bool false := hv 42 (by decide)
              clear hv
              have HB9 := hid (HBQ.out.trans (hC.mono HBQ.out.size))
              have HK9 := hid (HKQ.out.below hC)
              have n9 := HNQ.out.below hC HNQ.out.lt
              have z0 := n9.cell 0
              have z1 := n9.cell 1
              have z2 := n9.cell 2
              simp only [List.getElem?_toArray, List.getElem?_cons_zero, List.getElem?_cons_succ] at z0 z1 z2
              have HLQ9 : Hid (q < w9.heap.size) := hid n9.lt
              have hau : (abU x0).size ≤ maxLen := by
                have h1 := ab_size x0
                have h2 := HPZ.out
                have h3 : 1000 ≤ maxLen := by decide
                omega
              have hlk := HK9.out.look (abU x0) hau
              clear hau
              clear hC d0 n9 q0 q1 q2 c0 c1 c2
              generalize look (l.take k) (abU x0) = zk at *
              generalize abU x0 = u at *
              simp only [Tl.fill, List.drop]
              simp only [Act.put, List.setIfInBounds_toArray, List.set_cons_succ, List.set_cons_zero, e42]
              generalize v' 19 = y19 at *
              generalize v' 20 = y20 at *
              generalize v' 21 = y21 at *
              generalize v' 22 = y22 at *
              generalize v' 23 = y23 at *
              generalize v' 24 = y24 at *
              generalize v' 25 = y25 at *
              generalize v' 26 = y26 at *
              generalize v' 27 = y27 at *
              generalize v' 28 = y28 at *
              generalize v' 29 = y29 at *
              generalize v' 30 = y30 at *
              generalize v' 31 = y31 at *
              generalize v' 32 = y32 at *
              generalize v' 33 = y33 at *
              generalize v' 34 = y34 at *
              generalize v' 35 = y35 at *
              generalize v' 36 = y36 at *
              generalize v' 37 = y37 at *
              generalize v' 38 = y38 at *
              generalize v' 39 = y39 at *
              generalize v' 40 = y40 at *
              generalize v' 41 = y41 at *
              cases hab : abB x0 with
              | false =>
                have HA2 : Hid ((List.range (k + 1)).all (okP l) = true) := hid (by rw [HAS.out, HA.out, HOK.out, HOKL.out, hab]; rfl)
                rw [hab] at C3
                clear hab hlk
                go_wp2_with fail
                refine (C3 _).mono ?_
                rintro e wc ⟨rfl, hwc⟩
                rw [hwc]
                clear hwc
                go_wp2_with fail
                refine Tl.wp_mix_lit (by kernel_rfl) 5 [56, 57, 58, 59, 60] 62 rfl (by kernel_rfl) (Below w9.heap.size w9) (trG x0 x2 x1 q mb) ((Below.refl _ _).drew)
                  ⟨fun a' W' hC hF => ?_, fun a' W' hC hF => ?_, fun a' W' hC hF => ?_, fun a' W' hC hF => ?_, fun a' W' hC hF => ?_, trivial⟩ ?_
                · exact Tl.sm_v 56 _ rfl (Tl.wanted_none rfl) hC rfl (rn_move rfl ((hF 3 (by decide +kernel)).2 (by decide)))
                · exact Tl.sm_v 57 _ rfl (Tl.wanted_none rfl) hC rfl (rn_fa38_0 rfl ((hF 5 (by decide +kernel)).2 (by decide)))
                · exact Tl.sm_v 58 _ rfl (Tl.wanted_none rfl) hC rfl (rn_load9 rfl (show Act.eval a' (.tmp 57) = .pointer (some ⟨q, 0, none⟩) from ((hF 57 (by decide +kernel)).1 (by decide))) ((hC.cell (p := ⟨q, 0, none⟩) HLQ9.out).trans z0))
                · exact Tl.sm_v 59 _ rfl (Tl.wanted_none rfl) hC rfl (rn_load38 rfl ((hF 5 (by decide +kernel)).2 (by decide)) ((hC.cell (p := ⟨q, 0, none⟩) HLQ9.out).trans z0) ((hC.cell (p := ⟨q, 1, none⟩) HLQ9.out).trans z1) ((hC.cell (p := ⟨q, 2, none⟩) HLQ9.out).trans z2))
                · refine Tl.sm_call 29 #[_] (Tl.wanted_none rfl) (rn_call1 rfl rfl (show Act.eval a' (.tmp 59) = .agg #[.string x0, .bool x1, .string x2] from ((hF 59 (by decide +kernel)).1 (by decide))) (en29 _ _)) ((C4.out W').mono ?_)
                  rintro e W'' ⟨rfl, hb⟩
                  exact ⟨_, rfl, hC.trans (hb.mono hC.size), fun d v _ h => h, fun d hd => by cases hd; rfl⟩
                intro v'' w10 hC2 hv2
                have e56 : v'' 56 = .map (some mb) := hv2 56 (by decide)
                have e58 : v'' 58 = .string x0 := hv2 58 (by decide)
                have e60 : v'' 60 = .int .u8 (kindN x1) := hv2 60 (by decide)
                clear hv2
                have HB10 := hid (HB9.out.trans (hC2.mono HB9.out.size))
                obtain ⟨w11, hrun, hk11, hg11⟩ := HPUT.out _ (HK9.out.below hC2)
                have HK11 := hid hk11
                have HB11 := hid (HB10.out.grown hg11 HB10.out.size (fun j hj => by cases hj; rw [HMB.out]; exact Nat.le_refl _))
                clear hC2 hk11 hg11 z0 z1 z2
                simp only [Tl.fill, List.drop]
                simp only [Act.put, List.setIfInBounds_toArray, List.set_cons_succ, List.set_cons_zero, e56, e58, e60]
                generalize v'' 57 = y57 at *
                generalize v'' 59 = y59 at *
                clear e56 e58 e60
                go_wp2_with fail
                go_roundw
                case rel => exact ⟨k + 1, by omega, by rfl, HA2, HK11, HB11⟩
                case measure => first | (simp [intOf]; done) | (simp [intOf]; omega)
              | true =>
                rw [hab] at C3
                by_cases h2 : zk = 2
                · subst h2
                  have HA2 : Hid ((List.range (k + 1)).all (okP l) = true) := hid (by rw [HAS.out, HA.out, HOK.out, HOKL.out, hab]; rfl)
                  clear hab
                  go_wp2_with fail
                  refine (C3 _).mono ?_
                  rintro e wc ⟨rfl, hwc⟩
                  rw [hwc]
                  clear hwc
                  go_wp2_with fail
                  refine Tl.wp_mix_lit (by kernel_rfl) 5 [56, 57, 58, 59, 60] 62 rfl (by kernel_rfl) (Below w9.heap.size w9) (trG x0 x2 x1 q mb) ((Below.refl _ _).drew)
                    ⟨fun a' W' hC hF => ?_, fun a' W' hC hF => ?_, fun a' W' hC hF => ?_, fun a' W' hC hF => ?_, fun a' W' hC hF => ?_, trivial⟩ ?_
                  · exact Tl.sm_v 56 _ rfl (Tl.wanted_none rfl) hC rfl (rn_move rfl ((hF 3 (by decide +kernel)).2 (by decide)))
                  · exact Tl.sm_v 57 _ rfl (Tl.wanted_none rfl) hC rfl (rn_fa38_0 rfl ((hF 5 (by decide +kernel)).2 (by decide)))
                  · exact Tl.sm_v 58 _ rfl (Tl.wanted_none rfl) hC rfl (rn_load9 rfl (show Act.eval a' (.tmp 57) = .pointer (some ⟨q, 0, none⟩) from ((hF 57 (by decide +kernel)).1 (by decide))) ((hC.cell (p := ⟨q, 0, none⟩) HLQ9.out).trans z0))
                  · exact Tl.sm_v 59 _ rfl (Tl.wanted_none rfl) hC rfl (rn_load38 rfl ((hF 5 (by decide +kernel)).2 (by decide)) ((hC.cell (p := ⟨q, 0, none⟩) HLQ9.out).trans z0) ((hC.cell (p := ⟨q, 1, none⟩) HLQ9.out).trans z1) ((hC.cell (p := ⟨q, 2, none⟩) HLQ9.out).trans z2))
                  · refine Tl.sm_call 29 #[_] (Tl.wanted_none rfl) (rn_call1 rfl rfl (show Act.eval a' (.tmp 59) = .agg #[.string x0, .bool x1, .string x2] from ((hF 59 (by decide +kernel)).1 (by decide))) (en29 _ _)) ((C4.out W').mono ?_)
                    rintro e W'' ⟨rfl, hb⟩
                    exact ⟨_, rfl, hC.trans (hb.mono hC.size), fun d v _ h => h, fun d hd => by cases hd; rfl⟩
                  intro v'' w10 hC2 hv2
                  have e56 : v'' 56 = .map (some mb) := hv2 56 (by decide)
                  have e58 : v'' 58 = .string x0 := hv2 58 (by decide)
                  have e60 : v'' 60 = .int .u8 (kindN x1) := hv2 60 (by decide)
                  clear hv2
                  have HB10 := hid (HB9.out.trans (hC2.mono HB9.out.size))
                  obtain ⟨w11, hrun, hk11, hg11⟩ := HPUT.out _ (HK9.out.below hC2)
                  have HK11 := hid hk11
                  have HB11 := hid (HB10.out.grown hg11 HB10.out.size (fun j hj => by cases hj; rw [HMB.out]; exact Nat.le_refl _))
                  clear hC2 hk11 hg11 z0 z1 z2
                  simp only [Tl.fill, List.drop]
                  simp only [Act.put, List.setIfInBounds_toArray, List.set_cons_succ, List.set_cons_zero, e56, e58, e60]
                  generalize v'' 57 = y57 at *
                  generalize v'' 59 = y59 at *
                  clear e56 e58 e60
                  go_wp2_with fail
                  go_roundw
                  case rel => exact ⟨k + 1, by omega, by rfl, HA2, HK11, HB11⟩
                  case measure => first | (simp [intOf]; done) | (simp [intOf]; omega)
                · have hrf : r = false := by rw [HR.out, HTP.out]; exact HAN.out (by rw [HOK.out, HOKL.out, hab, decide_eq_false h2]; rfl)
                  subst hrf
                  have h3 : (zk == 2) = false := by simpa using h2
                  clear hab
                  go_wp2_with fail
                  refine (C3 _).mono ?_
                  rintro e wc ⟨rfl, hwc⟩
                  rw [hwc]
                  clear hwc
                  go_wp2_with fail
                  go_ret
                  exact ⟨rfl, HB9.out⟩
            | false =>
              have hrf : r = false := by rw [HR.out, HTP.out]; exact HAN.out (by rw [HOK.out, hm, hh, hlp, decide_eq_false hk0]; rfl)
              have hge : (!lt p0 x0) = true := by rw [hlp]; rfl
              clear hm hh hlp C3
              go_upto_region 7 with fail
              rw [← hwq, ← hq]
              clear hwq hq
              refine Tl.wp_mix_lit (by kernel_rfl) 24 [19, 20, 21, 22, 23, 24, 25, 26, 27, 28, 29, 30, 31, 32, 33, 34, 35, 36, 37, 38, 39, 40, 41, 42] 62 rfl (by kernel_rfl) (Below wq.heap.size wq) (trF5 x0 p0 x2 x1 q k g o n c) ((Below.refl _ _).drew)
                ⟨fun a' W' hC hF => ?_, fun a' W' hC hF => ?_, fun a' W' hC hF => ?_, fun a' W' hC hF => ?_, fun a' W' hC hF => ?_, fun a' W' hC hF => ?_, fun a' W' hC hF => ?_, fun a' W' hC hF => ?_, fun a' W' hC hF => ?_, fun a' W' hC hF => ?_, fun a' W' hC hF => ?_, fun a' W' hC hF => ?_, fun a' W' hC hF => ?_, fun a' W' hC hF => ?_, fun a' W' hC hF => ?_, fun a' W' hC hF => ?_, fun a' W' hC hF => ?_, fun a' W' hC hF => ?_, fun a' W' hC hF => ?_, fun a' W' hC hF => ?_, fun a' W' hC hF => ?_, fun a' W' hC hF => ?_, fun a' W' hC hF => ?_, fun a' W' hC hF => ?_, trivial⟩ ?_
              · exact Tl.sm_v 19 _ rfl (Tl.wanted_none rfl) hC rfl (rn_fa38_0 rfl ((hF 5 (by decide +kernel)).2 (by decide)))
              · exact Tl.sm_v 20 _ rfl (Tl.wanted_none rfl) hC rfl (rn_load9 rfl (show Act.eval a' (.tmp 19) = .pointer (some ⟨q, 0, none⟩) from ((hF 19 (by decide +kernel)).1 (by decide))) ((hC.cell (p := ⟨q, 0, none⟩) HLQ.out).trans q0))
              · refine Tl.sm_call 14 #[_] (Tl.wanted_none rfl) (rn_call1 rfl rfl (show Act.eval a' (.tmp 20) = .string x0 from ((hF 20 (by decide +kernel)).1 (by decide))) (en14 _ _)) ((CM.out W').mono ?_)
                rintro e W'' ⟨rfl, hb⟩
                exact ⟨_, rfl, hC.trans (hb.mono hC.size), fun d v _ h => h, fun d hd => by cases hd; rfl⟩
              · exact Tl.sm_v 22 _ rfl (Tl.wanted_none rfl) hC rfl (rn_not rfl (show Act.eval a' (.tmp 21) = .bool true from ((hF 21 (by decide +kernel)).1 (by decide))) rfl)
              · exact Tl.sm_v 23 _ rfl (Tl.wanted_none rfl) hC rfl (rn_move rfl (show Act.eval a' (.tmp 22) = .bool false from ((hF 22 (by decide +kernel)).1 (by decide))))
              · exact Tl.sm_v 24 _ rfl (Tl.wanted_is rfl rfl (show Act.eval a' (.tmp 23) = .bool false from ((hF 23 (by decide +kernel)).1 (by decide)))) hC rfl (rn_load38 rfl ((hF 5 (by decide +kernel)).2 (by decide)) ((hC.cell (p := ⟨q, 0, none⟩) HLQ.out).trans q0) ((hC.cell (p := ⟨q, 1, none⟩) HLQ.out).trans q1) ((hC.cell (p := ⟨q, 2, none⟩) HLQ.out).trans q2))
              · refine Tl.sm_call 28 #[_] (Tl.wanted_is rfl rfl (show Act.eval a' (.tmp 23) = .bool false from ((hF 23 (by decide +kernel)).1 (by decide)))) (rn_call1 rfl rfl (show Act.eval a' (.tmp 24) = .agg #[.string x0, .bool x1, .string x2] from ((hF 24 (by decide +kernel)).1 (by decide))) (en28 _ _)) ((CH.out W').mono ?_)
                rintro e W'' ⟨rfl, hb⟩
                exact ⟨_, rfl, hC.trans (hb.mono hC.size), fun d v _ h => h, fun d hd => by cases hd; rfl⟩
              · exact Tl.sm_v 26 _ rfl (Tl.wanted_is rfl rfl (show Act.eval a' (.tmp 23) = .bool false from ((hF 23 (by decide +kernel)).1 (by decide)))) hC rfl (rn_not rfl (show Act.eval a' (.tmp 25) = .bool true from ((hF 25 (by decide +kernel)).1 (by decide))) rfl)
              · exact Tl.sm_v 27 _ rfl (Tl.wanted_none rfl) hC rfl (rn_pickF rfl (show Act.eval a' (.tmp 23) = .bool false from ((hF 23 (by decide +kernel)).1 (by decide))) (show Act.eval a' (.tmp 26) = .bool false from ((hF 26 (by decide +kernel)).1 (by decide))))
              · exact Tl.sm_v 28 _ rfl (Tl.wanted_none rfl) hC rfl (rn_move rfl (show Act.eval a' (.tmp 27) = .bool false from ((hF 27 (by decide +kernel)).1 (by decide))))
              · exact Tl.sm_v 29 _ rfl (Tl.wanted_is rfl rfl (show Act.eval a' (.tmp 28) = .bool false from ((hF 28 (by decide +kernel)).1 (by decide)))) hC rfl (rn_move rfl ((hF 4 (by decide +kernel)).2 (by decide)))
              · exact Tl.sm_v 30 _ rfl (Tl.wanted_is rfl rfl (show Act.eval a' (.tmp 28) = .bool false from ((hF 28 (by decide +kernel)).1 (by decide)))) hC rfl (rn_gtr3 rfl (show Act.eval a' (.tmp 29) = .int .i64 (k : Int) from ((hF 29 (by decide +kernel)).1 (by decide))) rfl (by have := HK0.out; simp; omega))
              · exact Tl.sm_v 31 _ rfl (Tl.wanted_is rfl rfl (show Act.eval a' (.tmp 28) = .bool false from ((hF 28 (by decide +kernel)).1 (by decide)))) hC rfl (rn_move rfl (show Act.eval a' (.tmp 30) = .bool true from ((hF 30 (by decide +kernel)).1 (by decide))))
              · exact Tl.sm_v 32 _ rfl (Tl.wanted_is rfl rfl (show Act.eval a' (.tmp 31) = .bool true from ((hF 31 (by decide +kernel)).1 (by decide)))) hC rfl (rn_move rfl ((hF 0 (by decide +kernel)).2 (by decide)))
              · exact Tl.sm_v 33 _ rfl (Tl.wanted_is rfl rfl (show Act.eval a' (.tmp 31) = .bool true from ((hF 31 (by decide +kernel)).1 (by decide)))) hC rfl (rn_move rfl ((hF 4 (by decide +kernel)).2 (by decide)))
              · exact Tl.sm_v 34 _ rfl (Tl.wanted_is rfl rfl (show Act.eval a' (.tmp 31) = .bool true from ((hF 31 (by decide +kernel)).1 (by decide)))) hC rfl (rn_sub3 rfl (show Act.eval a' (.tmp 33) = .int .i64 (k : Int) from ((hF 33 (by decide +kernel)).1 (by decide))) rfl wn)
              · exact Tl.sm_v 35 _ rfl (Tl.wanted_is rfl rfl (show Act.eval a' (.tmp 31) = .bool true from ((hF 31 (by decide +kernel)).1 (by decide)))) hC rfl (rn_ix22 rfl (show Act.eval a' (.tmp 32) = .slice (some ⟨g, o, none⟩) n c from ((hF 32 (by decide +kernel)).1 (by decide))) (show Act.eval a' (.tmp 34) = .int .i64 ((k - 1 : Nat) : Int) from ((hF 34 (by decide +kernel)).1 (by decide))) (by omega))
              · exact Tl.sm_v 36 _ rfl (Tl.wanted_is rfl rfl (show Act.eval a' (.tmp 31) = .bool true from ((hF 31 (by decide +kernel)).1 (by decide)))) hC rfl (rn_fa38_0 rfl (show Act.eval a' (.tmp 35) = .pointer (some ⟨g, o + (k - 1) * 3, none⟩) from ((hF 35 (by decide +kernel)).1 (by decide))))
              · exact Tl.sm_v 37 _ rfl (Tl.wanted_is rfl rfl (show Act.eval a' (.tmp 31) = .bool true from ((hF 31 (by decide +kernel)).1 (by decide)))) hC rfl (rn_load9 rfl (show Act.eval a' (.tmp 36) = .pointer (some ⟨g, o + (k - 1) * 3, none⟩) from ((hF 36 (by decide +kernel)).1 (by decide))) ((hC.cell (p := ⟨g, o + (k - 1) * 3, none⟩) HLG.out).trans d0))
              · exact Tl.sm_v 38 _ rfl (Tl.wanted_is rfl rfl (show Act.eval a' (.tmp 31) = .bool true from ((hF 31 (by decide +kernel)).1 (by decide)))) hC rfl (rn_fa38_0 rfl ((hF 5 (by decide +kernel)).2 (by decide)))
              · exact Tl.sm_v 39 _ rfl (Tl.wanted_is rfl rfl (show Act.eval a' (.tmp 31) = .bool true from ((hF 31 (by decide +kernel)).1 (by decide)))) hC rfl (rn_load9 rfl (show Act.eval a' (.tmp 38) = .pointer (some ⟨q, 0, none⟩) from ((hF 38 (by decide +kernel)).1 (by decide))) ((hC.cell (p := ⟨q, 0, none⟩) HLQ.out).trans q0))
              · exact Tl.sm_v 40 _ rfl (Tl.wanted_is rfl rfl (show Act.eval a' (.tmp 31) = .bool true from ((hF 31 (by decide +kernel)).1 (by decide)))) hC rfl (rn_geq9 rfl (show Act.eval a' (.tmp 37) = .string p0 from ((hF 37 (by decide +kernel)).1 (by decide))) (show Act.eval a' (.tmp 39) = .string x0 from ((hF 39 (by decide +kernel)).1 (by decide))) (hge))
              · exact Tl.sm_v 41 _ rfl (Tl.wanted_is rfl rfl (show Act.eval a' (.tmp 28) = .bool false from ((hF 28 (by decide +kernel)).1 (by decide)))) hC rfl (rn_pickT rfl (show Act.eval a' (.tmp 31) = .bool true from ((hF 31 (by decide +kernel)).1 (by decide))) (show Act.eval a' (.tmp 40) = .bool true from ((hF 40 (by decide +kernel)).1 (by decide))))
              · exact Tl.sm_v 42 _ rfl (Tl.wanted_none rfl) hC rfl (rn_pickF rfl (show Act.eval a' (.tmp 28) = .bool false from ((hF 28 (by decide +kernel)).1 (by decide))) (show Act.eval a' (.tmp 41) = .bool true from ((hF 41 (by decide +kernel)).1 (by decide))))
              intro v' w9 hC hv
              have e42 : v' 42 = .bool true := hv 42 (by decide)
              clear hv
              have HB9 := hid (HBQ.out.trans (hC.mono HBQ.out.size))
              clear hC d0 q0 q1 q2 c0 c1 c2
              simp only [Tl.fill, List.drop]
              simp only [Act.put, List.setIfInBounds_toArray, List.set_cons_succ, List.set_cons_zero, e42]
              subst hrf
              go_wp2_with fail
              go_ret
              exact ⟨rfl, HB9.out⟩
    · obtain rfl : n = k := by omega
      have j1 : ¬ ((n : Int) < (n : Int)) := by omega
      have hrt : r = true := by rw [HR.out, HTP.out]; exact HA.out
      subst hrt
      go_wp2_with fail
      go_ret
      exact ⟨rfl, HB.out⟩
end Go.Proofs.YtnhekngmgjnodaaDoor
