/- The walk of PackNames. -/
import Derived.Test.YtfebelcdffknkaaWorks
import Derived.Test.YtfebelcdffknkaaTl
namespace Go.Proofs.Ytfebelcdffknkaa
open Go.RowKit Go.Maps
open Pk
set_option linter.unusedVariables false
theorem tx_c {w : World} {g : Nat} {l : List ByteArray} (h : Tx w (some ⟨g, 0, none⟩) l) (j : Nat) (hj : j < l.length) : w.cell? ⟨g, j, none⟩ = some (.string (l.getD j ⟨#[]⟩)) := by
  obtain ⟨g', o, e, hg, hc⟩ := h j hj
  cases e
  rw [Nat.zero_add] at hc
  exact hc
theorem may_call (l : List ByteArray) (n : Nat) (hn : l.length = n) (A : Option Addr) (cap : Nat) (w : World) (h : Tx w A l) (hl : l.length ≤ 1000000) (ht : tot l ≤ 100000000) (c : Bool) (hc : mayB l = c) :
    Calls Try.prog 11 #[.slice A n cap] w fun e w' => e = .returned (.bool c) ∧ Below w.heap.size w w' := by
  subst hn hc; exact may_any l A cap w h hl ht
def F0 : ByteArray := rep 2048 97
def F1 : ByteArray := rep 2048 98
def O1 : ByteArray := rep 16384 97
def O1a : ByteArray := O1 ++ (⟨#[97]⟩ : ByteArray)
theorem bsF0 : bs F0 = List.replicate 2048 97 := rep_bs _ _ (by decide)
theorem bsF1 : bs F1 = List.replicate 2048 98 := rep_bs _ _ (by decide)
theorem bsO1 : bs O1 = List.replicate 16384 97 := rep_bs _ _ (by decide)
theorem szF0 : F0.size = 2048 := rep_size _ _
theorem szF1 : F1.size = 2048 := rep_size _ _
theorem szO1 : O1.size = 16384 := rep_size _ _
theorem m_full : mayB [F0, F1] = true := mayB_yes ⟨by decide, by decide, fun x hx => by
    simp only [List.map_cons, List.map_nil, List.mem_cons, List.not_mem_nil, or_false] at hx
    rcases hx with rfl | rfl
    · rw [bs_length, szF0]; decide
    · rw [bs_length, szF1]; decide, by
    simp only [List.map_cons, List.map_nil, List.nodup_cons, List.mem_singleton, List.not_mem_nil, not_false_eq_true, List.nodup_nil, and_true]
    rw [bsF0, bsF1]
    intro e
    have h := (List.cons.inj ((List.replicate_succ (n := 2047) (a := 97)).symm.trans (e.trans (List.replicate_succ (n := 2047) (a := 98))))).1
    omega, .inr (by show tot [F0, F1] ≤ 4096; rw [tot_cons, tot_cons, szF0, szF1]; decide)⟩
theorem m_3a : mayB [F0, F1, (⟨#[99]⟩ : ByteArray)] = false := mayB_no (fun h => by
  have := h.room
  have e : total ([F0, F1, (⟨#[99]⟩ : ByteArray)].map bs) = 4097 := by show tot [F0, F1, (⟨#[99]⟩ : ByteArray)] = _; rw [tot_cons, tot_cons, tot_cons, szF0, szF1]; decide
  rw [e] at this
  simp at this)
theorem m_3b : mayB [(⟨#[99]⟩ : ByteArray), F0, F1] = false := mayB_no (fun h => by
  have := h.room
  have e : total ([(⟨#[99]⟩ : ByteArray), F0, F1].map bs) = 4097 := by show tot [(⟨#[99]⟩ : ByteArray), F0, F1] = _; rw [tot_cons, tot_cons, tot_cons, szF0, szF1]; decide
  rw [e] at this
  simp at this)
theorem may_one : May ([O1].map bs) := ⟨by decide, by decide, fun x hx => by
    simp only [List.map_cons, List.map_nil, List.mem_cons, List.not_mem_nil, or_false] at hx
    subst hx
    rw [bs_length, szO1]; decide, by simp, .inl rfl⟩
theorem szO1a : O1a.size = 16385 := by
  unfold O1a
  rw [← bs_length, bs_append, List.length_append, bs_length, szO1]; rfl
theorem m_oa : mayB [O1a] = false := mayB_no (fun h => by
  have := (h.each (bs O1a) (by simp)).2
  rw [bs_length, szO1a] at this
  omega)
theorem m_ob : mayB [O1, (⟨#[98]⟩ : ByteArray)] = false := mayB_no (fun h => by
  have := h.room
  have e : total ([O1, (⟨#[98]⟩ : ByteArray)].map bs) = 16385 := by show tot [O1, (⟨#[98]⟩ : ByteArray)] = _; rw [tot_cons, tot_cons, szO1]; decide
  rw [e] at this
  simp at this)
theorem m_bo : mayB [(⟨#[98]⟩ : ByteArray), O1] = false := mayB_no (fun h => by
  have := h.room
  have e : total ([(⟨#[98]⟩ : ByteArray), O1].map bs) = 16385 := by show tot [(⟨#[98]⟩ : ByteArray), O1] = _; rw [tot_cons, tot_cons, szO1]; decide
  rw [e] at this
  simp at this)
def BL : ByteArray := ofBs (blob ([O1].map bs))
theorem bsBL : bs BL = blob ([O1].map bs) := bs_ofBs _ (blob_lt _)
theorem szBL : BL.size = 16392 := by
  rw [← bs_length, bsBL, blob_len]
  have e1 : tot [O1] = 16384 := by rw [tot_cons, szO1]; rfl
  unfold tot at e1
  rw [e1, List.length_map]; rfl
theorem toldBL : toldS BL = [O1] := map_bs_inj (told_blob may_one bsBL)
theorem at_one : at' ([O1].map bs) = [8] := rfl
theorem mk_one (w : World) (A : Option Addr) (cap : Nat) (h : Tx w A [O1]) :
    Calls Try.prog 9 #[.slice A 1 cap] w fun e w' => ∃ g, e = .returned (.tuple #[.string BL, .slice (some ⟨g, 0, none⟩) 1 1, .int .i64 0]) ∧ Is w' (some ⟨g, 0, none⟩) [8] ∧ Below w.heap.size w w' := by
  have h1 := make_yes [O1] A cap w h may_one
  rw [at_one] at h1
  exact h1
theorem rd_one (w : World) : Calls Try.prog 10 #[.string BL] w fun e w' => ∃ g g', e = .returned (.tuple #[.slice (some ⟨g, 0, none⟩) 1 1, .slice (some ⟨g', 0, none⟩) 1 1, .int .i64 0]) ∧ Tx w' (some ⟨g, 0, none⟩) [O1] ∧ Is w' (some ⟨g', 0, none⟩) [8] ∧ Below w.heap.size w w' := by
  have h := read_yes BL (by rw [szBL]; decide) _ may_one bsBL w
  rw [toldBL, at_one] at h
  exact h
def L12 : List ByteArray := [⟨#[]⟩, ⟨#[112, 97, 107, 49]⟩, ⟨#[112, 97, 107, 50, 0, 1, 0, 1, 97]⟩, ⟨#[112, 97, 107, 49, 0, 1, 0, 1]⟩, ⟨#[112, 97, 107, 49, 0, 1, 0, 1, 97, 98]⟩, ⟨#[112, 97, 107, 49, 0, 1, 0, 0]⟩, ⟨#[112, 97, 107, 49, 0, 1, 0]⟩, ⟨#[112, 97, 107, 49, 0, 2, 0, 1, 0, 1, 97, 97]⟩, ⟨#[112, 97, 107, 49, 0, 2, 0, 1, 97]⟩, ⟨#[112, 97, 107, 49, 255, 255]⟩, ⟨#[112, 97, 107, 49, 0, 1, 255, 255, 97]⟩, ⟨#[80, 97, 107, 49, 0, 1, 0, 1, 97]⟩]
theorem L12_all : (L12.all fun b => !okB b && decide (b.size ≤ 500000)) = true := by decide +kernel
theorem rd_bad (k : Nat) (hk : k < 12) (w : World) : Calls Try.prog 10 #[.string (L12.getD k ⟨#[]⟩)] w fun e w' => e = .returned (.tuple #[.slice none 0 0, .slice none 0 0, .int .i64 4]) ∧ Below w.heap.size w w' := by
  have h := List.all_eq_true.1 L12_all _ (getD_mem (l := L12) (k := k) hk)
  rw [Bool.and_eq_true, Bool.not_eq_true'] at h
  exact read_no _ (of_decide_eq_true h.2) (okB_no h.1) w
def xBA : ByteArray := ⟨#[112, 97, 107, 49, 0, 2, 0, 1, 0, 1, 98, 97]⟩
theorem rd_ba (w : World) : Calls Try.prog 10 #[.string ⟨#[112, 97, 107, 49, 0, 2, 0, 1, 0, 1, 98, 97]⟩] w fun e w' => ∃ g g', e = .returned (.tuple #[.slice (some ⟨g, 0, none⟩) 2 2, .slice (some ⟨g', 0, none⟩) 2 2, .int .i64 0]) ∧ Tx w' (some ⟨g, 0, none⟩) [⟨#[98]⟩, ⟨#[97]⟩] ∧ Below w.heap.size w w' := by
  have e0 : toldS xBA = [⟨#[98]⟩, ⟨#[97]⟩] := by decide +kernel
  have hM : May ([(⟨#[98]⟩ : ByteArray), ⟨#[97]⟩].map bs) := (mayC_iff _).1 (by decide +kernel)
  have h := read_yes xBA (by decide) _ hM (by decide +kernel) w
  rw [e0] at h
  refine h.mono ?_
  rintro e w' ⟨g, g', h1, h2, _, h4⟩
  exact ⟨g, g', h1, h2, h4⟩
section
variable {ev : Operand → Value} {o : Oper} {w : World} {x y z : Operand}
theorem rn_move {v : Value} (ho : o.op = .move x) (hx : ev x = v) : (execOp ev o).run Try.prog w = .ok (.value v) w := by
  subst hx; simp [execOp, ho, go_sem]
theorem rn_assign {v : Value} (ho : o.op = .assign x) (hx : ev x = v) : (execOp ev o).run Try.prog w = .ok (.value v) w := by
  subst hx; simp [execOp, ho, go_sem]
theorem rn_load {t : TypeId} {g k : Nat} {v : Value} (ho : o.op = .load t x) (hx : ev x = .pointer (some ⟨g, k, none⟩)) (hc : w.cell? ⟨g, k, none⟩ = some v) (hs : t = 9 := by rfl) : (execOp ev o).run Try.prog w = .ok (.value v) w := by
  subst hs
  simp [execOp, ho, hx, go_sem, hc]
theorem rn_ix {t : TypeId} {g n c i : Nat} (ho : o.op = .indexAddr t x y) (hx : ev x = .slice (some ⟨g, 0, none⟩) n c) (hy : ev y = .int .i64 (i : Int)) (hi : i < n) (hs : t = 24 := by rfl) : (execOp ev o).run Try.prog w = .ok (.value (.pointer (some ⟨g, i, none⟩))) w := by
  subst hs
  have q1 : (i : Int) < (n : Int) := by omega
  simp [execOp, ho, hx, hy, go_sem, q1]
theorem rn_len9 {A : ByteArray} {n : Nat} (ho : o.op = .call { callee := .builtin .len, args := #[x], argTypes := #[9] }) (hx : ev x = .string A) (hn : A.size = n) : (execOp ev o).run Try.prog w = .ok (.value (.int .i64 (n : Int))) w := by
  subst hn; simp [execOp, ho, hx, go_sem]
theorem rn_not {b c : Bool} (ho : o.op = .unOp .not 4 x) (hx : ev x = .bool b) (hc : (!b) = c) : (execOp ev o).run Try.prog w = .ok (.value (.bool c)) w := by
  subst hc
  simp [execOp, ho, hx, go_sem]
theorem rn_add9 {A B D : ByteArray} (ho : o.op = .binOp .add 9 x y 9) (hx : ev x = .string A) (hy : ev y = .string B) (hs : A.size + B.size ≤ 9223372036854775807) (hd : A ++ B = D) : (execOp ev o).run Try.prog w = .ok (.value (.string D)) w := by
  subst hd; simp [execOp, ho, hx, hy, go_sem, hs]
theorem rn_neq26 {u v : Int} {c : Bool} (ho : o.op = .binOp .neq 26 x y 26) (hx : ev x = .int .i64 u) (hy : ev y = .int .i64 v) (hc : (u != v) = c) : (execOp ev o).run Try.prog w = .ok (.value (.bool c)) w := by
  subst hc; simp [execOp, ho, hx, hy, go_sem]
theorem rn_neq3 {u v : Int} {c : Bool} (ho : o.op = .binOp .neq 3 x y 3) (hx : ev x = .int .i64 u) (hy : ev y = .int .i64 v) (hc : (u != v) = c) : (execOp ev o).run Try.prog w = .ok (.value (.bool c)) w := by
  subst hc; simp [execOp, ho, hx, hy, go_sem]
theorem rn_pickF {v : Value} (ho : o.op = .pick x y z) (hx : ev x = .bool false) (hz : ev z = v) : (execOp ev o).run Try.prog w = .ok (.value v) w := by
  subst hz; simp [execOp, ho, hx, go_sem]
theorem rn_pickT {v : Value} (ho : o.op = .pick x y z) (hx : ev x = .bool true) (hy : ev y = v) : (execOp ev o).run Try.prog w = .ok (.value v) w := by
  subst hy; simp [execOp, ho, hx, go_sem]
theorem rn_bs1 {p : ByteArray} (ho : o.op = .buildSlice 24 1 #[(0, x)]) (hx : ev x = .string p) : (execOp ev o).run Try.prog w = .ok (.value (.slice (some ⟨w.heap.size, 0, none⟩) 1 1)) (w.alloc (.cells (sTx [p]) 9)) := by
  simp [execOp, ho, hx, go_sem, sTx]
theorem rn_bs2 {p q : ByteArray} (ho : o.op = .buildSlice 24 2 #[(0, x), (1, y)]) (hx : ev x = .string p) (hy : ev y = .string q) : (execOp ev o).run Try.prog w = .ok (.value (.slice (some ⟨w.heap.size, 0, none⟩) 2 2)) (w.alloc (.cells (sTx [p, q]) 9)) := by
  simp [execOp, ho, hx, hy, go_sem, sTx]
theorem rn_bs3 {p q r : ByteArray} (ho : o.op = .buildSlice 24 3 #[(0, x), (1, y), (2, z)]) (hx : ev x = .string p) (hy : ev y = .string q) (hz : ev z = .string r) : (execOp ev o).run Try.prog w = .ok (.value (.slice (some ⟨w.heap.size, 0, none⟩) 3 3)) (w.alloc (.cells (sTx [p, q, r]) 9)) := by
  simp [execOp, ho, hx, hy, hz, go_sem, sTx]
theorem rn_bs25 {i : Nat} (ho : o.op = .buildSlice 25 1 #[(0, x)]) (hx : ev x = .int .i64 (i : Int)) : (execOp ev o).run Try.prog w = .ok (.value (.slice (some ⟨w.heap.size, 0, none⟩) 1 1)) (w.alloc (.cells (nIs [i]) 3)) := by
  simp [execOp, ho, hx, go_sem, nIs, nI]
theorem rn_call1 {t : TypeId} {u : Value} {f : Operand} {F : Nat} (ho : o.op = .call { callee := .value f, args := #[x], argTypes := #[t] }) (hf : ev f = .func (.func F) #[] #[]) (hx : ev x = u) (he : (callFunc F #[u]).run Try.prog w = .ok (.enter F #[u]) w) : (execOp ev o).run Try.prog w = .ok (.enter F #[u]) w := by
  simp [execOp, ho, hf, hx, go_sem, he]
theorem rn_call2 {t t' : TypeId} {u v : Value} {f : Operand} {F : Nat} (ho : o.op = .call { callee := .value f, args := #[x, y], argTypes := #[t, t'] }) (hf : ev f = .func (.func F) #[] #[]) (hx : ev x = u) (hy : ev y = v) (he : (callFunc F #[u, v]).run Try.prog w = .ok (.enter F #[u, v]) w) : (execOp ev o).run Try.prog w = .ok (.enter F #[u, v]) w := by
  simp [execOp, ho, hf, hx, hy, go_sem, he]
theorem en11 (args : Array Value) (w : World) : (callFunc 11 args).run Try.prog w = .ok (.enter 11 args) w := by kernel_rfl
theorem en12 (args : Array Value) (w : World) : (callFunc 12 args).run Try.prog w = .ok (.enter 12 args) w := by kernel_rfl
theorem en13 (args : Array Value) (w : World) : (callFunc 13 args).run Try.prog w = .ok (.enter 13 args) w := by kernel_rfl
end
/-- what the slots of the limits' test hold -/
def nmV (q0 q1 ga gl gt : Nat) (f0 f1 o1 oa bl : ByteArray) : Nat → Value
  | 42 => .slice (some ⟨q0, 0, none⟩) 2 2
  | 43 => .bool true
  | 44 => .bool false
  | 45 => .bool false
  | 46 => .slice (some ⟨q0, 0, none⟩) 2 2
  | 47 => .pointer (some ⟨q0, 0, none⟩)
  | 48 => .string f0
  | 49 => .slice (some ⟨q0, 0, none⟩) 2 2
  | 50 => .pointer (some ⟨q0, 1, none⟩)
  | 51 => .string f1
  | 53 => .bool false
  | 54 => .bool false
  | 55 => .bool false
  | 56 => .slice (some ⟨q0, 0, none⟩) 2 2
  | 57 => .pointer (some ⟨q0, 0, none⟩)
  | 58 => .string f0
  | 59 => .slice (some ⟨q0, 0, none⟩) 2 2
  | 60 => .pointer (some ⟨q0, 1, none⟩)
  | 61 => .string f1
  | 63 => .bool false
  | 64 => .bool false
  | 65 => .bool false
  | 66 => .slice (some ⟨q1, 0, none⟩) 1 1
  | 67 => .bool true
  | 68 => .bool false
  | 69 => .bool false
  | 70 => .bool false
  | 71 => .slice (some ⟨q1, 0, none⟩) 1 1
  | 72 => .pointer (some ⟨q1, 0, none⟩)
  | 73 => .string o1
  | 74 => .string oa
  | 76 => .bool false
  | 77 => .bool false
  | 78 => .bool false
  | 79 => .slice (some ⟨q1, 0, none⟩) 1 1
  | 80 => .pointer (some ⟨q1, 0, none⟩)
  | 81 => .string o1
  | 83 => .bool false
  | 84 => .bool false
  | 85 => .bool false
  | 86 => .slice (some ⟨q1, 0, none⟩) 1 1
  | 87 => .pointer (some ⟨q1, 0, none⟩)
  | 88 => .string o1
  | 90 => .bool false
  | 91 => .bool false
  | 92 => .bool false
  | 93 => .int .i64 0
  | 94 => .bool false
  | 95 => .bool false
  | 96 => .bool false
  | 97 => .string bl
  | 98 => .int .i64 16392
  | 99 => .bool false
  | 100 => .bool false
  | 101 => .bool false
  | 102 => .slice (some ⟨ga, 0, none⟩) 1 1
  | 104 => .bool true
  | 105 => .bool false
  | 106 => .bool false
  | 107 => .bool false
  | 108 => .int .i64 0
  | 109 => .bool false
  | 110 => .bool false
  | 111 => .bool false
  | 112 => .slice (some ⟨gl, 0, none⟩) 1 1
  | 113 => .slice (some ⟨q1, 0, none⟩) 1 1
  | 114 => .bool true
  | 115 => .bool false
  | 116 => .bool false
  | 117 => .bool false
  | 118 => .slice (some ⟨gt, 0, none⟩) 1 1
  | 119 => .slice (some ⟨ga, 0, none⟩) 1 1
  | 120 => .bool true
  | 121 => .bool false
  | 122 => .bool false
  | _ => undef
def nmT (q0 q1 ga gl gt : Nat) (f0 f1 o1 oa bl : ByteArray) : Nat → Option (List ByteArray)
  | 52 => some [f0, f1, ⟨#[99]⟩]
  | 62 => some [⟨#[99]⟩, f0, f1]
  | 75 => some [oa]
  | 82 => some [o1, ⟨#[98]⟩]
  | 89 => some [⟨#[98]⟩, o1]
  | _ => none
def nmI : Nat → Option (List Nat)
  | 103 => some [8]
  | _ => none
def nmF (q0 q1 ga gl gt : Nat) (f0 f1 o1 oa bl : ByteArray) (d : Nat) (v : Value) (W : World) : Prop := match nmT q0 q1 ga gl gt f0 f1 o1 oa bl d with
  | some l => ∃ b, v = .slice (some ⟨b, 0, none⟩) l.length l.length ∧ Tx W (some ⟨b, 0, none⟩) l
  | none => match nmI d with
    | some z => ∃ b, v = .slice (some ⟨b, 0, none⟩) z.length z.length ∧ Is W (some ⟨b, 0, none⟩) z
    | none => v = nmV q0 q1 ga gl gt f0 f1 o1 oa bl d
theorem nmF_mono {q0 q1 ga gl gt : Nat} {f0 f1 o1 oa bl : ByteArray} {W W' : World} (hb : Below W.heap.size W W') (d : Nat) (v : Value) (h : nmF q0 q1 ga gl gt f0 f1 o1 oa bl d v W) : nmF q0 q1 ga gl gt f0 f1 o1 oa bl d v W' := by
  unfold nmF at h ⊢
  cases e1 : nmT q0 q1 ga gl gt f0 f1 o1 oa bl d with
  | some l =>
    rw [e1] at h
    obtain ⟨b, h1, h2⟩ := h
    exact ⟨b, h1, h2.below hb⟩
  | none =>
    rw [e1] at h
    cases e2 : nmI d with
    | some z =>
      rw [e2] at h
      obtain ⟨b, h1, h2⟩ := h
      exact ⟨b, h1, h2.below hb⟩
    | none => rw [e2] at h; exact h
theorem nmE {q0 q1 ga gl gt : Nat} {f0 f1 o1 oa bl : ByteArray} {W : World} {d : Nat} {v : Value} (h1 : nmT q0 q1 ga gl gt f0 f1 o1 oa bl d = none) (h2 : nmI d = none) (h : nmF q0 q1 ga gl gt f0 f1 o1 oa bl d v W) : v = nmV q0 q1 ga gl gt f0 f1 o1 oa bl d := by
  unfold nmF at h
  rw [h1, h2] at h
  exact h
set_option maxRecDepth 20000 in
set_option maxHeartbeats 20000000 in
theorem names_walk (w : World) : Calls Try.prog 3 #[] w fun e w' => e = .returned (.bool true) ∧ Below w.heap.size w w' := by
  have M0 := fun W => many_any 2048 97 (by decide) (by decide) W
  have M1 := fun W => many_any 2048 98 (by decide) (by decide) W
  have M2 := fun W => many_any 16384 97 (by decide) (by decide) W
  have f1 := m_full
  have f2 := m_3a
  have f3 := m_3b
  have f4 := mayB_yes may_one
  have f5 := m_oa
  have f6 := m_ob
  have f7 := m_bo
  have t1 : tot [F0, F1] = 4096 := by rw [tot_cons, tot_cons, szF0, szF1]; decide
  have t2 : tot [F0, F1, (⟨#[99]⟩ : ByteArray)] = 4097 := by rw [tot_cons, tot_cons, tot_cons, szF0, szF1]; decide
  have t3 : tot [(⟨#[99]⟩ : ByteArray), F0, F1] = 4097 := by rw [tot_cons, tot_cons, tot_cons, szF0, szF1]; decide
  have t4 : tot [O1] = 16384 := by rw [tot_cons, szO1]; decide
  have t5 : tot [O1a] = 16385 := by rw [tot_cons, szO1a]; decide
  have t6 : tot [O1, (⟨#[98]⟩ : ByteArray)] = 16385 := by rw [tot_cons, tot_cons, szO1]; decide
  have t7 : tot [(⟨#[98]⟩ : ByteArray), O1] = 16385 := by rw [tot_cons, tot_cons, szO1]; decide
  have c1 := fun A cap W h => may_call [F0, F1] 2 rfl A cap W h (by decide) (by rw [t1]; omega) _ f1
  have c2 := fun A cap W h => may_call [F0, F1, (⟨#[99]⟩ : ByteArray)] 3 rfl A cap W h (by decide) (by rw [t2]; omega) _ f2
  have c3 := fun A cap W h => may_call [⟨#[99]⟩, F0, F1] 3 rfl A cap W h (by decide) (by rw [t3]; omega) _ f3
  have c4 := fun A cap W h => may_call [O1] 1 rfl A cap W h (by decide) (by rw [t4]; omega) _ f4
  have c5 := fun A cap W h => may_call [O1a] 1 rfl A cap W h (by decide) (by rw [t5]; omega) _ f5
  have c6 := fun A cap W h => may_call [O1, ⟨#[98]⟩] 2 rfl A cap W h (by decide) (by rw [t6]; omega) _ f6
  have c7 := fun A cap W h => may_call [⟨#[98]⟩, O1] 2 rfl A cap W h (by decide) (by rw [t7]; omega) _ f7
  have ck := mk_one
  have cr := rd_one
  have cb := szBL
  have co := szO1
  have hns : O1.size + (⟨#[97]⟩ : ByteArray).size ≤ 9223372036854775807 := by rw [co]; decide
  change ∀ W, Calls Try.prog 8 _ W fun e w' => e = .returned (.string F0) ∧ Below W.heap.size W w' at M0
  change ∀ W, Calls Try.prog 8 _ W fun e w' => e = .returned (.string F1) ∧ Below W.heap.size W w' at M1
  change ∀ W, Calls Try.prog 8 _ W fun e w' => e = .returned (.string O1) ∧ Below W.heap.size W w' at M2
  clear f1 f2 f3 f4 f5 f6 f7 t1 t2 t3 t4 t5 t6 t7 co
  have hadd : O1 ++ (⟨#[97]⟩ : ByteArray) = O1a := rfl
  generalize O1a = oa at *
  generalize F0 = f0 at *
  generalize F1 = f1 at *
  generalize O1 = o1 at *
  generalize BL = bl0 at *
  go_enter Try.func3, Try.ntmps3
  go_wp2_with fail
  refine (works_true _).mono ?_
  rintro e w1 ⟨rfl, b1⟩
  have B1 := hid b1
  clear b1
  go_wp2_with fail
  refine (M0 _).mono ?_
  rintro e w2 ⟨rfl, b2⟩
  have B2 := hid (B1.out.trans (b2.mono B1.out.size))
  clear b2
  go_wp2_with fail
  refine (M1 _).mono ?_
  rintro e w3 ⟨rfl, b3⟩
  have B3 := hid (B2.out.trans (b3.mono B2.out.size))
  have T3 := hid (lit_tx w3 [f0, f1])
  have b3' : Below w3.heap.size w3 (w3.alloc (.cells (sTx [f0, f1]) 9)) := (Below.refl _ _).alloc (Nat.le_refl _) _
  clear b3
  go_wp2_with fail
  refine (M2 _).mono ?_
  rintro e w4 ⟨rfl, b4⟩
  have B4 := hid (B3.out.trans (b3'.trans (b4.mono b3'.size) |>.mono B3.out.size))
  have T4 := hid (T3.out.below b4)
  have U4 := hid (lit_tx w4 [o1])
  have b4' : Below w4.heap.size w4 (w4.alloc (.cells (sTx [o1]) 9)) := (Below.refl _ _).alloc (Nat.le_refl _) _
  have T4' := hid (T4.out.below b4')
  clear b4 b3' M0 M1 M2
  go_wp2_with fail
  refine (ck _ _ _ U4.out).mono ?_
  rintro e w5 ⟨ga, rfl, i5, b5⟩
  have B5 := hid (B4.out.trans (b4'.trans (b5.mono b4'.size) |>.mono B4.out.size))
  have T5 := hid (T4'.out.below b5)
  have U5 := hid (U4.out.below b5)
  have I5 := hid i5
  clear b4' b5 i5 T3 T4 T4' U4 B1 B2 B3 B4
  go_wp2_with fail
  refine (cr _).mono ?_
  rintro e w6 ⟨gl, gt, rfl, t6, i6, b6⟩
  have B6 := hid (B5.out.trans (b6.mono B5.out.size))
  have T6 := hid (T5.out.below b6)
  have U6 := hid (U5.out.below b6)
  have I6 := hid (I5.out.below b6)
  have V6 := hid t6
  have J6 := hid i6
  clear b6 t6 i6 B5 T5 U5 I5 ck cr
  go_wp2_with fail
  refine Tl.wp_mix_lit (by kernel_rfl) 81 [42, 43, 44, 45, 46, 47, 48, 49, 50, 51, 52, 53, 54, 55, 56, 57, 58, 59, 60, 61, 62, 63, 64, 65, 66, 67, 68, 69, 70, 71, 72, 73, 74, 75, 76, 77, 78, 79, 80, 81, 82, 83, 84, 85, 86, 87, 88, 89, 90, 91, 92, 93, 94, 95, 96, 97, 98, 99, 100, 101, 102, 103, 104, 105, 106, 107, 108, 109, 110, 111, 112, 113, 114, 115, 116, 117, 118, 119, 120, 121, 122] 158 rfl (by kernel_rfl) (fun W => Below w6.heap.size w6 W) (nmF w3.heap.size w4.heap.size ga gl gt f0 f1 o1 oa bl0) (Below.refl _ _).drew
    ⟨fun a' W' hC hF => ?_, fun a' W' hC hF => ?_, fun a' W' hC hF => ?_, fun a' W' hC hF => ?_, fun a' W' hC hF => ?_, fun a' W' hC hF => ?_, fun a' W' hC hF => ?_, fun a' W' hC hF => ?_, fun a' W' hC hF => ?_, fun a' W' hC hF => ?_, fun a' W' hC hF => ?_, fun a' W' hC hF => ?_, fun a' W' hC hF => ?_, fun a' W' hC hF => ?_, fun a' W' hC hF => ?_, fun a' W' hC hF => ?_, fun a' W' hC hF => ?_, fun a' W' hC hF => ?_, fun a' W' hC hF => ?_, fun a' W' hC hF => ?_, fun a' W' hC hF => ?_, fun a' W' hC hF => ?_, fun a' W' hC hF => ?_, fun a' W' hC hF => ?_, fun a' W' hC hF => ?_, fun a' W' hC hF => ?_, fun a' W' hC hF => ?_, fun a' W' hC hF => ?_, fun a' W' hC hF => ?_, fun a' W' hC hF => ?_, fun a' W' hC hF => ?_, fun a' W' hC hF => ?_, fun a' W' hC hF => ?_, fun a' W' hC hF => ?_, fun a' W' hC hF => ?_, fun a' W' hC hF => ?_, fun a' W' hC hF => ?_, fun a' W' hC hF => ?_, fun a' W' hC hF => ?_, fun a' W' hC hF => ?_, fun a' W' hC hF => ?_, fun a' W' hC hF => ?_, fun a' W' hC hF => ?_, fun a' W' hC hF => ?_, fun a' W' hC hF => ?_, fun a' W' hC hF => ?_, fun a' W' hC hF => ?_, fun a' W' hC hF => ?_, fun a' W' hC hF => ?_, fun a' W' hC hF => ?_, fun a' W' hC hF => ?_, fun a' W' hC hF => ?_, fun a' W' hC hF => ?_, fun a' W' hC hF => ?_, fun a' W' hC hF => ?_, fun a' W' hC hF => ?_, fun a' W' hC hF => ?_, fun a' W' hC hF => ?_, fun a' W' hC hF => ?_, fun a' W' hC hF => ?_, fun a' W' hC hF => ?_, fun a' W' hC hF => ?_, fun a' W' hC hF => ?_, fun a' W' hC hF => ?_, fun a' W' hC hF => ?_, fun a' W' hC hF => ?_, fun a' W' hC hF => ?_, fun a' W' hC hF => ?_, fun a' W' hC hF => ?_, fun a' W' hC hF => ?_, fun a' W' hC hF => ?_, fun a' W' hC hF => ?_, fun a' W' hC hF => ?_, fun a' W' hC hF => ?_, fun a' W' hC hF => ?_, fun a' W' hC hF => ?_, fun a' W' hC hF => ?_, fun a' W' hC hF => ?_, fun a' W' hC hF => ?_, fun a' W' hC hF => ?_, fun a' W' hC hF => ?_, trivial⟩ ?_
  · exact Tl.sm_v 42 _ rfl (Tl.wanted_none rfl) hC rfl (rn_move rfl ((hF 1 (by decide +kernel)).2 (by decide)))
  · refine Tl.sm_call 11 #[_] (Tl.wanted_none rfl) (rn_call1 rfl rfl (nmE (W := W') rfl rfl ((hF 42 (by decide +kernel)).1 (by decide))) (en11 _ _)) ((c1 _ _ _ (T6.out.below hC)).mono ?_)
    rintro e w'' ⟨rfl, hb⟩
    exact ⟨_, rfl, hC.trans (hb.mono hC.size), fun d v _ h => nmF_mono hb d v h, fun d hd => by cases hd; rfl⟩
  · exact Tl.sm_v 44 _ rfl (Tl.wanted_none rfl) hC rfl (rn_not rfl (nmE (W := W') rfl rfl ((hF 43 (by decide +kernel)).1 (by decide))) rfl)
  · exact Tl.sm_v 45 _ rfl (Tl.wanted_none rfl) hC rfl (rn_move rfl (nmE (W := W') rfl rfl ((hF 44 (by decide +kernel)).1 (by decide))))
  · exact Tl.sm_v 46 _ rfl (Tl.wanted_is rfl rfl (nmE (W := W') rfl rfl ((hF 45 (by decide +kernel)).1 (by decide)))) hC rfl (rn_move rfl ((hF 1 (by decide +kernel)).2 (by decide)))
  · exact Tl.sm_v 47 _ rfl (Tl.wanted_is rfl rfl (nmE (W := W') rfl rfl ((hF 45 (by decide +kernel)).1 (by decide)))) hC rfl (rn_ix rfl (nmE (W := W') rfl rfl ((hF 46 (by decide +kernel)).1 (by decide))) rfl (by decide))
  · exact Tl.sm_v 48 _ rfl (Tl.wanted_is rfl rfl (nmE (W := W') rfl rfl ((hF 45 (by decide +kernel)).1 (by decide)))) hC rfl (rn_load rfl (nmE (W := W') rfl rfl ((hF 47 (by decide +kernel)).1 (by decide))) (tx_c (T6.out.below hC) 0 (by simp)))
  · exact Tl.sm_v 49 _ rfl (Tl.wanted_is rfl rfl (nmE (W := W') rfl rfl ((hF 45 (by decide +kernel)).1 (by decide)))) hC rfl (rn_move rfl ((hF 1 (by decide +kernel)).2 (by decide)))
  · exact Tl.sm_v 50 _ rfl (Tl.wanted_is rfl rfl (nmE (W := W') rfl rfl ((hF 45 (by decide +kernel)).1 (by decide)))) hC rfl (rn_ix rfl (nmE (W := W') rfl rfl ((hF 49 (by decide +kernel)).1 (by decide))) rfl (by decide))
  · exact Tl.sm_v 51 _ rfl (Tl.wanted_is rfl rfl (nmE (W := W') rfl rfl ((hF 45 (by decide +kernel)).1 (by decide)))) hC rfl (rn_load rfl (nmE (W := W') rfl rfl ((hF 50 (by decide +kernel)).1 (by decide))) (tx_c (T6.out.below hC) 1 (by simp)))
  · refine Tl.sm_w _ (Tl.wanted_is rfl rfl (nmE (W := W') rfl rfl ((hF 45 (by decide +kernel)).1 (by decide)))) (rn_bs3 rfl (nmE (W := W') rfl rfl ((hF 48 (by decide +kernel)).1 (by decide))) (nmE (W := W') rfl rfl ((hF 51 (by decide +kernel)).1 (by decide))) rfl) (hC.alloc hC.size _) (fun d v _ h => nmF_mono ((Below.refl _ _).alloc (Nat.le_refl _) _) d v h) (fun d hd => by cases hd; exact ⟨_, rfl, lit_tx _ _⟩)
  · obtain ⟨b, hb1, hb2⟩ := ((hF 52 (by decide +kernel)).1 (by decide))
    refine Tl.sm_call 11 #[_] (Tl.wanted_is rfl rfl (nmE (W := W') rfl rfl ((hF 45 (by decide +kernel)).1 (by decide)))) (rn_call1 rfl rfl hb1 (en11 _ _)) ((c2 _ _ _ hb2).mono ?_)
    rintro e w'' ⟨rfl, hb⟩
    exact ⟨_, rfl, hC.trans (hb.mono hC.size), fun d v _ h => nmF_mono hb d v h, fun d hd => by cases hd; rfl⟩
  · exact Tl.sm_v 54 _ rfl (Tl.wanted_none rfl) hC rfl (rn_pickF rfl (nmE (W := W') rfl rfl ((hF 45 (by decide +kernel)).1 (by decide))) (nmE (W := W') rfl rfl ((hF 53 (by decide +kernel)).1 (by decide))))
  · exact Tl.sm_v 55 _ rfl (Tl.wanted_none rfl) hC rfl (rn_move rfl (nmE (W := W') rfl rfl ((hF 54 (by decide +kernel)).1 (by decide))))
  · exact Tl.sm_v 56 _ rfl (Tl.wanted_is rfl rfl (nmE (W := W') rfl rfl ((hF 55 (by decide +kernel)).1 (by decide)))) hC rfl (rn_move rfl ((hF 1 (by decide +kernel)).2 (by decide)))
  · exact Tl.sm_v 57 _ rfl (Tl.wanted_is rfl rfl (nmE (W := W') rfl rfl ((hF 55 (by decide +kernel)).1 (by decide)))) hC rfl (rn_ix rfl (nmE (W := W') rfl rfl ((hF 56 (by decide +kernel)).1 (by decide))) rfl (by decide))
  · exact Tl.sm_v 58 _ rfl (Tl.wanted_is rfl rfl (nmE (W := W') rfl rfl ((hF 55 (by decide +kernel)).1 (by decide)))) hC rfl (rn_load rfl (nmE (W := W') rfl rfl ((hF 57 (by decide +kernel)).1 (by decide))) (tx_c (T6.out.below hC) 0 (by simp)))
  · exact Tl.sm_v 59 _ rfl (Tl.wanted_is rfl rfl (nmE (W := W') rfl rfl ((hF 55 (by decide +kernel)).1 (by decide)))) hC rfl (rn_move rfl ((hF 1 (by decide +kernel)).2 (by decide)))
  · exact Tl.sm_v 60 _ rfl (Tl.wanted_is rfl rfl (nmE (W := W') rfl rfl ((hF 55 (by decide +kernel)).1 (by decide)))) hC rfl (rn_ix rfl (nmE (W := W') rfl rfl ((hF 59 (by decide +kernel)).1 (by decide))) rfl (by decide))
  · exact Tl.sm_v 61 _ rfl (Tl.wanted_is rfl rfl (nmE (W := W') rfl rfl ((hF 55 (by decide +kernel)).1 (by decide)))) hC rfl (rn_load rfl (nmE (W := W') rfl rfl ((hF 60 (by decide +kernel)).1 (by decide))) (tx_c (T6.out.below hC) 1 (by simp)))
  · refine Tl.sm_w _ (Tl.wanted_is rfl rfl (nmE (W := W') rfl rfl ((hF 55 (by decide +kernel)).1 (by decide)))) (rn_bs3 rfl rfl (nmE (W := W') rfl rfl ((hF 58 (by decide +kernel)).1 (by decide))) (nmE (W := W') rfl rfl ((hF 61 (by decide +kernel)).1 (by decide)))) (hC.alloc hC.size _) (fun d v _ h => nmF_mono ((Below.refl _ _).alloc (Nat.le_refl _) _) d v h) (fun d hd => by cases hd; exact ⟨_, rfl, lit_tx _ _⟩)
  · obtain ⟨b, hb1, hb2⟩ := ((hF 62 (by decide +kernel)).1 (by decide))
    refine Tl.sm_call 11 #[_] (Tl.wanted_is rfl rfl (nmE (W := W') rfl rfl ((hF 55 (by decide +kernel)).1 (by decide)))) (rn_call1 rfl rfl hb1 (en11 _ _)) ((c3 _ _ _ hb2).mono ?_)
    rintro e w'' ⟨rfl, hb⟩
    exact ⟨_, rfl, hC.trans (hb.mono hC.size), fun d v _ h => nmF_mono hb d v h, fun d hd => by cases hd; rfl⟩
  · exact Tl.sm_v 64 _ rfl (Tl.wanted_none rfl) hC rfl (rn_pickF rfl (nmE (W := W') rfl rfl ((hF 55 (by decide +kernel)).1 (by decide))) (nmE (W := W') rfl rfl ((hF 63 (by decide +kernel)).1 (by decide))))
  · exact Tl.sm_v 65 _ rfl (Tl.wanted_none rfl) hC rfl (rn_move rfl (nmE (W := W') rfl rfl ((hF 64 (by decide +kernel)).1 (by decide))))
  · exact Tl.sm_v 66 _ rfl (Tl.wanted_is rfl rfl (nmE (W := W') rfl rfl ((hF 65 (by decide +kernel)).1 (by decide)))) hC rfl (rn_move rfl ((hF 2 (by decide +kernel)).2 (by decide)))
  · refine Tl.sm_call 11 #[_] (Tl.wanted_is rfl rfl (nmE (W := W') rfl rfl ((hF 65 (by decide +kernel)).1 (by decide)))) (rn_call1 rfl rfl (nmE (W := W') rfl rfl ((hF 66 (by decide +kernel)).1 (by decide))) (en11 _ _)) ((c4 _ _ _ (U6.out.below hC)).mono ?_)
    rintro e w'' ⟨rfl, hb⟩
    exact ⟨_, rfl, hC.trans (hb.mono hC.size), fun d v _ h => nmF_mono hb d v h, fun d hd => by cases hd; rfl⟩
  · exact Tl.sm_v 68 _ rfl (Tl.wanted_is rfl rfl (nmE (W := W') rfl rfl ((hF 65 (by decide +kernel)).1 (by decide)))) hC rfl (rn_not rfl (nmE (W := W') rfl rfl ((hF 67 (by decide +kernel)).1 (by decide))) rfl)
  · exact Tl.sm_v 69 _ rfl (Tl.wanted_none rfl) hC rfl (rn_pickF rfl (nmE (W := W') rfl rfl ((hF 65 (by decide +kernel)).1 (by decide))) (nmE (W := W') rfl rfl ((hF 68 (by decide +kernel)).1 (by decide))))
  · exact Tl.sm_v 70 _ rfl (Tl.wanted_none rfl) hC rfl (rn_move rfl (nmE (W := W') rfl rfl ((hF 69 (by decide +kernel)).1 (by decide))))
  · exact Tl.sm_v 71 _ rfl (Tl.wanted_is rfl rfl (nmE (W := W') rfl rfl ((hF 70 (by decide +kernel)).1 (by decide)))) hC rfl (rn_move rfl ((hF 2 (by decide +kernel)).2 (by decide)))
  · exact Tl.sm_v 72 _ rfl (Tl.wanted_is rfl rfl (nmE (W := W') rfl rfl ((hF 70 (by decide +kernel)).1 (by decide)))) hC rfl (rn_ix rfl (nmE (W := W') rfl rfl ((hF 71 (by decide +kernel)).1 (by decide))) rfl (by decide))
  · exact Tl.sm_v 73 _ rfl (Tl.wanted_is rfl rfl (nmE (W := W') rfl rfl ((hF 70 (by decide +kernel)).1 (by decide)))) hC rfl (rn_load rfl (nmE (W := W') rfl rfl ((hF 72 (by decide +kernel)).1 (by decide))) (tx_c (U6.out.below hC) 0 (by simp)))
  · exact Tl.sm_v 74 _ rfl (Tl.wanted_is rfl rfl (nmE (W := W') rfl rfl ((hF 70 (by decide +kernel)).1 (by decide)))) hC rfl (rn_add9 rfl (nmE (W := W') rfl rfl ((hF 73 (by decide +kernel)).1 (by decide))) rfl hns hadd)
  · refine Tl.sm_w _ (Tl.wanted_is rfl rfl (nmE (W := W') rfl rfl ((hF 70 (by decide +kernel)).1 (by decide)))) (rn_bs1 rfl (nmE (W := W') rfl rfl ((hF 74 (by decide +kernel)).1 (by decide)))) (hC.alloc hC.size _) (fun d v _ h => nmF_mono ((Below.refl _ _).alloc (Nat.le_refl _) _) d v h) (fun d hd => by cases hd; exact ⟨_, rfl, lit_tx _ _⟩)
  · obtain ⟨b, hb1, hb2⟩ := ((hF 75 (by decide +kernel)).1 (by decide))
    refine Tl.sm_call 11 #[_] (Tl.wanted_is rfl rfl (nmE (W := W') rfl rfl ((hF 70 (by decide +kernel)).1 (by decide)))) (rn_call1 rfl rfl hb1 (en11 _ _)) ((c5 _ _ _ hb2).mono ?_)
    rintro e w'' ⟨rfl, hb⟩
    exact ⟨_, rfl, hC.trans (hb.mono hC.size), fun d v _ h => nmF_mono hb d v h, fun d hd => by cases hd; rfl⟩
  · exact Tl.sm_v 77 _ rfl (Tl.wanted_none rfl) hC rfl (rn_pickF rfl (nmE (W := W') rfl rfl ((hF 70 (by decide +kernel)).1 (by decide))) (nmE (W := W') rfl rfl ((hF 76 (by decide +kernel)).1 (by decide))))
  · exact Tl.sm_v 78 _ rfl (Tl.wanted_none rfl) hC rfl (rn_move rfl (nmE (W := W') rfl rfl ((hF 77 (by decide +kernel)).1 (by decide))))
  · exact Tl.sm_v 79 _ rfl (Tl.wanted_is rfl rfl (nmE (W := W') rfl rfl ((hF 78 (by decide +kernel)).1 (by decide)))) hC rfl (rn_move rfl ((hF 2 (by decide +kernel)).2 (by decide)))
  · exact Tl.sm_v 80 _ rfl (Tl.wanted_is rfl rfl (nmE (W := W') rfl rfl ((hF 78 (by decide +kernel)).1 (by decide)))) hC rfl (rn_ix rfl (nmE (W := W') rfl rfl ((hF 79 (by decide +kernel)).1 (by decide))) rfl (by decide))
  · exact Tl.sm_v 81 _ rfl (Tl.wanted_is rfl rfl (nmE (W := W') rfl rfl ((hF 78 (by decide +kernel)).1 (by decide)))) hC rfl (rn_load rfl (nmE (W := W') rfl rfl ((hF 80 (by decide +kernel)).1 (by decide))) (tx_c (U6.out.below hC) 0 (by simp)))
  · refine Tl.sm_w _ (Tl.wanted_is rfl rfl (nmE (W := W') rfl rfl ((hF 78 (by decide +kernel)).1 (by decide)))) (rn_bs2 rfl (nmE (W := W') rfl rfl ((hF 81 (by decide +kernel)).1 (by decide))) rfl) (hC.alloc hC.size _) (fun d v _ h => nmF_mono ((Below.refl _ _).alloc (Nat.le_refl _) _) d v h) (fun d hd => by cases hd; exact ⟨_, rfl, lit_tx _ _⟩)
  · obtain ⟨b, hb1, hb2⟩ := ((hF 82 (by decide +kernel)).1 (by decide))
    refine Tl.sm_call 11 #[_] (Tl.wanted_is rfl rfl (nmE (W := W') rfl rfl ((hF 78 (by decide +kernel)).1 (by decide)))) (rn_call1 rfl rfl hb1 (en11 _ _)) ((c6 _ _ _ hb2).mono ?_)
    rintro e w'' ⟨rfl, hb⟩
    exact ⟨_, rfl, hC.trans (hb.mono hC.size), fun d v _ h => nmF_mono hb d v h, fun d hd => by cases hd; rfl⟩
  · exact Tl.sm_v 84 _ rfl (Tl.wanted_none rfl) hC rfl (rn_pickF rfl (nmE (W := W') rfl rfl ((hF 78 (by decide +kernel)).1 (by decide))) (nmE (W := W') rfl rfl ((hF 83 (by decide +kernel)).1 (by decide))))
  · exact Tl.sm_v 85 _ rfl (Tl.wanted_none rfl) hC rfl (rn_move rfl (nmE (W := W') rfl rfl ((hF 84 (by decide +kernel)).1 (by decide))))
  · exact Tl.sm_v 86 _ rfl (Tl.wanted_is rfl rfl (nmE (W := W') rfl rfl ((hF 85 (by decide +kernel)).1 (by decide)))) hC rfl (rn_move rfl ((hF 2 (by decide +kernel)).2 (by decide)))
  · exact Tl.sm_v 87 _ rfl (Tl.wanted_is rfl rfl (nmE (W := W') rfl rfl ((hF 85 (by decide +kernel)).1 (by decide)))) hC rfl (rn_ix rfl (nmE (W := W') rfl rfl ((hF 86 (by decide +kernel)).1 (by decide))) rfl (by decide))
  · exact Tl.sm_v 88 _ rfl (Tl.wanted_is rfl rfl (nmE (W := W') rfl rfl ((hF 85 (by decide +kernel)).1 (by decide)))) hC rfl (rn_load rfl (nmE (W := W') rfl rfl ((hF 87 (by decide +kernel)).1 (by decide))) (tx_c (U6.out.below hC) 0 (by simp)))
  · refine Tl.sm_w _ (Tl.wanted_is rfl rfl (nmE (W := W') rfl rfl ((hF 85 (by decide +kernel)).1 (by decide)))) (rn_bs2 rfl rfl (nmE (W := W') rfl rfl ((hF 88 (by decide +kernel)).1 (by decide)))) (hC.alloc hC.size _) (fun d v _ h => nmF_mono ((Below.refl _ _).alloc (Nat.le_refl _) _) d v h) (fun d hd => by cases hd; exact ⟨_, rfl, lit_tx _ _⟩)
  · obtain ⟨b, hb1, hb2⟩ := ((hF 89 (by decide +kernel)).1 (by decide))
    refine Tl.sm_call 11 #[_] (Tl.wanted_is rfl rfl (nmE (W := W') rfl rfl ((hF 85 (by decide +kernel)).1 (by decide)))) (rn_call1 rfl rfl hb1 (en11 _ _)) ((c7 _ _ _ hb2).mono ?_)
    rintro e w'' ⟨rfl, hb⟩
    exact ⟨_, rfl, hC.trans (hb.mono hC.size), fun d v _ h => nmF_mono hb d v h, fun d hd => by cases hd; rfl⟩
  · exact Tl.sm_v 91 _ rfl (Tl.wanted_none rfl) hC rfl (rn_pickF rfl (nmE (W := W') rfl rfl ((hF 85 (by decide +kernel)).1 (by decide))) (nmE (W := W') rfl rfl ((hF 90 (by decide +kernel)).1 (by decide))))
  · exact Tl.sm_v 92 _ rfl (Tl.wanted_none rfl) hC rfl (rn_move rfl (nmE (W := W') rfl rfl ((hF 91 (by decide +kernel)).1 (by decide))))
  · exact Tl.sm_v 93 _ rfl (Tl.wanted_is rfl rfl (nmE (W := W') rfl rfl ((hF 92 (by decide +kernel)).1 (by decide)))) hC rfl (rn_move rfl ((hF 5 (by decide +kernel)).2 (by decide)))
  · exact Tl.sm_v 94 _ rfl (Tl.wanted_is rfl rfl (nmE (W := W') rfl rfl ((hF 92 (by decide +kernel)).1 (by decide)))) hC rfl (rn_neq26 rfl (nmE (W := W') rfl rfl ((hF 93 (by decide +kernel)).1 (by decide))) rfl (by decide))
  · exact Tl.sm_v 95 _ rfl (Tl.wanted_none rfl) hC rfl (rn_pickF rfl (nmE (W := W') rfl rfl ((hF 92 (by decide +kernel)).1 (by decide))) (nmE (W := W') rfl rfl ((hF 94 (by decide +kernel)).1 (by decide))))
  · exact Tl.sm_v 96 _ rfl (Tl.wanted_none rfl) hC rfl (rn_move rfl (nmE (W := W') rfl rfl ((hF 95 (by decide +kernel)).1 (by decide))))
  · exact Tl.sm_v 97 _ rfl (Tl.wanted_is rfl rfl (nmE (W := W') rfl rfl ((hF 96 (by decide +kernel)).1 (by decide)))) hC rfl (rn_move rfl ((hF 3 (by decide +kernel)).2 (by decide)))
  · exact Tl.sm_v 98 _ rfl (Tl.wanted_is rfl rfl (nmE (W := W') rfl rfl ((hF 96 (by decide +kernel)).1 (by decide)))) hC rfl (rn_len9 rfl (nmE (W := W') rfl rfl ((hF 97 (by decide +kernel)).1 (by decide))) cb)
  · exact Tl.sm_v 99 _ rfl (Tl.wanted_is rfl rfl (nmE (W := W') rfl rfl ((hF 96 (by decide +kernel)).1 (by decide)))) hC rfl (rn_neq3 rfl (nmE (W := W') rfl rfl ((hF 98 (by decide +kernel)).1 (by decide))) rfl (by decide))
  · exact Tl.sm_v 100 _ rfl (Tl.wanted_none rfl) hC rfl (rn_pickF rfl (nmE (W := W') rfl rfl ((hF 96 (by decide +kernel)).1 (by decide))) (nmE (W := W') rfl rfl ((hF 99 (by decide +kernel)).1 (by decide))))
  · exact Tl.sm_v 101 _ rfl (Tl.wanted_none rfl) hC rfl (rn_move rfl (nmE (W := W') rfl rfl ((hF 100 (by decide +kernel)).1 (by decide))))
  · exact Tl.sm_v 102 _ rfl (Tl.wanted_is rfl rfl (nmE (W := W') rfl rfl ((hF 101 (by decide +kernel)).1 (by decide)))) hC rfl (rn_move rfl ((hF 4 (by decide +kernel)).2 (by decide)))
  · refine Tl.sm_w _ (Tl.wanted_is rfl rfl (nmE (W := W') rfl rfl ((hF 101 (by decide +kernel)).1 (by decide)))) (rn_bs25 rfl rfl) (hC.alloc hC.size _) (fun d v _ h => nmF_mono ((Below.refl _ _).alloc (Nat.le_refl _) _) d v h) (fun d hd => by cases hd; exact ⟨_, rfl, lit_is _ [8]⟩)
  · obtain ⟨b, hb1, hb2⟩ := ((hF 103 (by decide +kernel)).1 (by decide))
    refine Tl.sm_call 12 #[_, _] (Tl.wanted_is rfl rfl (nmE (W := W') rfl rfl ((hF 101 (by decide +kernel)).1 (by decide)))) (rn_call2 rfl rfl (nmE (W := W') rfl rfl ((hF 102 (by decide +kernel)).1 (by decide))) hb1 (en12 _ _)) ((ints_any [8] _ _ _ _ _ (I6.out.below hC) hb2 (by decide)).mono ?_)
    rintro e w'' ⟨rfl, hb⟩
    exact ⟨_, rfl, hC.trans (hb.mono hC.size), fun d v _ h => nmF_mono hb d v h, fun d hd => by cases hd; rfl⟩
  · exact Tl.sm_v 105 _ rfl (Tl.wanted_is rfl rfl (nmE (W := W') rfl rfl ((hF 101 (by decide +kernel)).1 (by decide)))) hC rfl (rn_not rfl (nmE (W := W') rfl rfl ((hF 104 (by decide +kernel)).1 (by decide))) rfl)
  · exact Tl.sm_v 106 _ rfl (Tl.wanted_none rfl) hC rfl (rn_pickF rfl (nmE (W := W') rfl rfl ((hF 101 (by decide +kernel)).1 (by decide))) (nmE (W := W') rfl rfl ((hF 105 (by decide +kernel)).1 (by decide))))
  · exact Tl.sm_v 107 _ rfl (Tl.wanted_none rfl) hC rfl (rn_move rfl (nmE (W := W') rfl rfl ((hF 106 (by decide +kernel)).1 (by decide))))
  · exact Tl.sm_v 108 _ rfl (Tl.wanted_is rfl rfl (nmE (W := W') rfl rfl ((hF 107 (by decide +kernel)).1 (by decide)))) hC rfl (rn_move rfl ((hF 8 (by decide +kernel)).2 (by decide)))
  · exact Tl.sm_v 109 _ rfl (Tl.wanted_is rfl rfl (nmE (W := W') rfl rfl ((hF 107 (by decide +kernel)).1 (by decide)))) hC rfl (rn_neq26 rfl (nmE (W := W') rfl rfl ((hF 108 (by decide +kernel)).1 (by decide))) rfl (by decide))
  · exact Tl.sm_v 110 _ rfl (Tl.wanted_none rfl) hC rfl (rn_pickF rfl (nmE (W := W') rfl rfl ((hF 107 (by decide +kernel)).1 (by decide))) (nmE (W := W') rfl rfl ((hF 109 (by decide +kernel)).1 (by decide))))
  · exact Tl.sm_v 111 _ rfl (Tl.wanted_none rfl) hC rfl (rn_move rfl (nmE (W := W') rfl rfl ((hF 110 (by decide +kernel)).1 (by decide))))
  · exact Tl.sm_v 112 _ rfl (Tl.wanted_is rfl rfl (nmE (W := W') rfl rfl ((hF 111 (by decide +kernel)).1 (by decide)))) hC rfl (rn_move rfl ((hF 6 (by decide +kernel)).2 (by decide)))
  · exact Tl.sm_v 113 _ rfl (Tl.wanted_is rfl rfl (nmE (W := W') rfl rfl ((hF 111 (by decide +kernel)).1 (by decide)))) hC rfl (rn_move rfl ((hF 2 (by decide +kernel)).2 (by decide)))
  · refine Tl.sm_call 13 #[_, _] (Tl.wanted_is rfl rfl (nmE (W := W') rfl rfl ((hF 111 (by decide +kernel)).1 (by decide)))) (rn_call2 rfl rfl (nmE (W := W') rfl rfl ((hF 112 (by decide +kernel)).1 (by decide))) (nmE (W := W') rfl rfl ((hF 113 (by decide +kernel)).1 (by decide))) (en13 _ _)) ((texts_any [o1] _ _ _ _ _ (V6.out.below hC) (U6.out.below hC) (by simp)).mono ?_)
    rintro e w'' ⟨rfl, hb⟩
    exact ⟨_, rfl, hC.trans (hb.mono hC.size), fun d v _ h => nmF_mono hb d v h, fun d hd => by cases hd; rfl⟩
  · exact Tl.sm_v 115 _ rfl (Tl.wanted_is rfl rfl (nmE (W := W') rfl rfl ((hF 111 (by decide +kernel)).1 (by decide)))) hC rfl (rn_not rfl (nmE (W := W') rfl rfl ((hF 114 (by decide +kernel)).1 (by decide))) rfl)
  · exact Tl.sm_v 116 _ rfl (Tl.wanted_none rfl) hC rfl (rn_pickF rfl (nmE (W := W') rfl rfl ((hF 111 (by decide +kernel)).1 (by decide))) (nmE (W := W') rfl rfl ((hF 115 (by decide +kernel)).1 (by decide))))
  · exact Tl.sm_v 117 _ rfl (Tl.wanted_none rfl) hC rfl (rn_move rfl (nmE (W := W') rfl rfl ((hF 116 (by decide +kernel)).1 (by decide))))
  · exact Tl.sm_v 118 _ rfl (Tl.wanted_is rfl rfl (nmE (W := W') rfl rfl ((hF 117 (by decide +kernel)).1 (by decide)))) hC rfl (rn_move rfl ((hF 7 (by decide +kernel)).2 (by decide)))
  · exact Tl.sm_v 119 _ rfl (Tl.wanted_is rfl rfl (nmE (W := W') rfl rfl ((hF 117 (by decide +kernel)).1 (by decide)))) hC rfl (rn_move rfl ((hF 4 (by decide +kernel)).2 (by decide)))
  · refine Tl.sm_call 12 #[_, _] (Tl.wanted_is rfl rfl (nmE (W := W') rfl rfl ((hF 117 (by decide +kernel)).1 (by decide)))) (rn_call2 rfl rfl (nmE (W := W') rfl rfl ((hF 118 (by decide +kernel)).1 (by decide))) (nmE (W := W') rfl rfl ((hF 119 (by decide +kernel)).1 (by decide))) (en12 _ _)) ((ints_any [8] _ _ _ _ _ (J6.out.below hC) (I6.out.below hC) (by decide)).mono ?_)
    rintro e w'' ⟨rfl, hb⟩
    exact ⟨_, rfl, hC.trans (hb.mono hC.size), fun d v _ h => nmF_mono hb d v h, fun d hd => by cases hd; rfl⟩
  · exact Tl.sm_v 121 _ rfl (Tl.wanted_is rfl rfl (nmE (W := W') rfl rfl ((hF 117 (by decide +kernel)).1 (by decide)))) hC rfl (rn_not rfl (nmE (W := W') rfl rfl ((hF 120 (by decide +kernel)).1 (by decide))) rfl)
  · exact Tl.sm_v 122 _ rfl (Tl.wanted_none rfl) hC rfl (rn_pickF rfl (nmE (W := W') rfl rfl ((hF 117 (by decide +kernel)).1 (by decide))) (nmE (W := W') rfl rfl ((hF 121 (by decide +kernel)).1 (by decide))))
  intro v' w7 hC hv
  have v122 : v' 122 = .bool false := hv 122 (by decide)
  have B7 := hid (B6.out.trans (hC.mono B6.out.size))
  have hd : ∀ l : List Oper, l.length = 81 → l.drop 81 = [] := fun l h => List.drop_eq_nil_of_le (by omega)
  rw [hd _ (by simp)]
  clear hd
  simp only [Tl.fill, wpList]
  simp only [Act.put, List.setIfInBounds_toArray, List.set_cons_succ, List.set_cons_zero, v122]
  clear hv hC v122 B6 T6 U6 I6 V6 J6 c1 c2 c3 c4 c5 c6 c7 hns hadd cb
  go_wp2_with fail
  have h8 := Has.new w7 w7.heap.size (sTx L12) 9 rfl
  have hb8 : Below w.heap.size w (w7.alloc (.cells (sTx L12) 9)) := B7.out.alloc B7.out.size _
  go_loopw [10, 11, 12, 13, 125] (fun _ _ _ _ v125 wr => ∃ k : Nat, k ≤ 12 ∧ v125 = .int .i64 (k : Int) ∧ Has wr w7.heap.size (sTx L12) 9 ∧ Below w.heap.size w wr) (fun _ _ _ _ v125 _ => 12 - (intOf v125).toNat)
  case atStart => exact ⟨0, by omega, rfl, h8, hb8⟩
  case round =>
    clear h8 hb8 B7
    obtain ⟨k, hk, rfl, hH, hB⟩ := hrel
    by_cases hlt : k < 12
    · have i1 : (k : Int) < 12 := by omega
      have i0 : (0 : Int) ≤ (k : Int) := by omega
      have c0 := tx_c (has_tx hH) k hlt
      have C := fun W => rd_bad k hlt W
      generalize L12.getD k ⟨#[]⟩ = s at *
      have wk : IntKind.i64.wrap ((k : Int) + 1) = ((k + 1 : Nat) : Int) := by rw [IntKind.wrap_i64]; omega
      have HH := hid hH
      have HB := hid hB
      clear hH hB
      go_wp2_with fail
      refine (C _).mono ?_
      rintro e w8 ⟨rfl, b8⟩
      have H8 := hid (HH.out.below b8 HH.out.lt)
      have B8 := hid (HB.out.trans (b8.mono HB.out.size))
      clear b8 C HH HB
      go_wp2_with fail
      go_roundw
      case rel => exact ⟨k + 1, by omega, by rfl, H8.out, B8.out⟩
      case measure => first | (simp [intOf]; done) | (simp [intOf]; omega)
    · obtain rfl : k = 12 := by omega
      have HB := hid hB
      clear hH hB
      go_wp2_with fail
      refine (rd_ba _).mono ?_
      rintro e w8 ⟨gx, gy, rfl, t8, b8⟩
      have T8 := hid t8
      have B8 := hid (HB.out.trans (b8.mono HB.out.size))
      clear b8 t8 HB
      go_wp2_with fail
      refine (texts_any [⟨#[98]⟩, ⟨#[97]⟩] _ _ _ _ _ (T8.out.below ((Below.refl _ _).alloc (Nat.le_refl _) _)) (lit_tx w8 [⟨#[98]⟩, ⟨#[97]⟩]) (by decide)).mono ?_
      rintro e w9 ⟨rfl, b9⟩
      have b9' : Below w8.heap.size w8 w9 := ((Below.refl _ _).alloc (Nat.le_refl _) _).trans (b9.mono (by simp))
      have B9 := hid (B8.out.trans (b9'.mono B8.out.size))
      clear b9 b9' T8
      go_wp2_with fail
      go_ret
      exact ⟨rfl, B9.out⟩
end Go.Proofs.Ytfebelcdffknkaa
