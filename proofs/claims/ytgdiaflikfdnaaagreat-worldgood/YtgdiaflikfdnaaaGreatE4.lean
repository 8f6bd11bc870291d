/- A step is done to both worlds: what is told is the same. Printed by gen_e4.py. -/
import Derived.Test.YtgdiaflikfdnaaaGreatE3
namespace Go.Proofs.YtgdiaflikfdnaaaGreat
open Go.RowKit Go.Maps
/-- a step, as it is handed in -/
structure Sp where
  kd : Nat
  i : Int
  nm : ByteArray
  dt : ByteArray
  lv : Value
  sv : List Sv
  fk : Int
  ft : Int
  fn : Int
  fa : Int
  fc : Int
def spcells (x : Sp) : List Value := [.int .u8 (x.kd : Int), .int .i64 x.i, .string x.nm, .string x.dt, x.lv, .int .u8 x.fk, .int .i64 x.ft, .int .i64 x.fn, .int .i64 x.fa, .int .i64 x.fc]
structure SpOk (w : World) (x : Sp) : Prop where
  kd : x.kd < 256
  i : x.i < 9223372036854775808
  nm : x.nm.size ≤ 1000000
  lv : RdS w x.lv x.sv
  sl : x.sv.length ≤ 9223372036854775807
  fk0 : 0 ≤ x.fk
  fk1 : x.fk < 256
  fn : x.fn < 9223372036854775808
  fa : x.fa < 9223372036854775808
def doW (W : Wd) (x : Sp) : Wd := if x.kd = 0 then (askS W x.i (fun s => putS s x.nm x.dt)).2 else if x.kd = 1 then askW W x.i else if x.kd = 2 then (askS W x.i (fun s => delS s x.nm)).2 else if x.kd = 3 then askW W x.i else if x.kd = 4 then (askS W x.i sync).2 else if x.kd = 5 then (cutW W x.i).2 else if x.kd = 6 then crashW W x.sv else if x.kd = 7 then (strikeW W x.fk x.ft x.fn x.fa x.fc).2 else clearW W
def doD (R : Rd) (x : Sp) : Rd := if x.kd = 0 then (askD R x.i (fun r => putR r x.nm x.dt)).2 else if x.kd = 1 then wD R x.i else if x.kd = 2 then (askD R x.i (fun r => delR r x.nm)).2 else if x.kd = 3 then wD R x.i else if x.kd = 4 then (askD R x.i syncR).2 else if x.kd = 5 then (cutD R x.i).2 else if x.kd = 6 then crashD R x.sv else if x.kd = 7 then (strikeD R x.fk x.ft x.fn x.fa x.fc).2 else clearD R
theorem Pair.did {N : Nat} {W : Wd} {R : Rd} (h : Pair N W R) {w : World} {x : Sp} (hx : SpOk w x) : Pair (N + 1) (doW W x) (doD R x) := by
  unfold doW doD
  split
  · exact (h.ask x.i fun s r ht => ht.put x.nm x.dt).2
  split
  · exact (h.asked x.i).more (Nat.le_succ _)
  split
  · exact (h.ask x.i fun s r ht => ht.del x.nm).2
  split
  · exact (h.asked x.i).more (Nat.le_succ _)
  split
  · exact (h.ask x.i fun s r ht => ht.sync).2
  split
  · exact (h.cut x.i hx.i).2.more (Nat.le_succ _)
  split
  · exact h.crash x.sv
  split
  · exact (h.strike x.fk x.ft x.fn x.fa x.fc hx.fn).2
  · exact h.clear.more (Nat.le_succ _)
theorem dp_rf {w : World} {S S1 T1 : Nat → Prop} {b c : Nat} {p : Nat × Nat × Nat} {s : Wd} (h1 : IsWd w S1 b p.1 s) (h3 : ∀ i, S1 i → S i) (h4 : ∀ i, T1 i → S i) (h5 : ∀ i, S1 i → ¬ T1 i) (h6 : ∀ i, S i → i < w.heap.size) : ∀ w' r', AfterD w w' T1 c p.2.1 p.2.2 r' → AfterP w w' S b c p s r' := fun w' r' ha => by
  obtain ⟨T1', a1, a2, a3⟩ := ha
  have hS : ∀ i, S1 i → i < w.heap.size := fun i hi => h6 i (h3 i hi)
  refine ⟨fun i => S i ∨ (w.heap.size ≤ i ∧ i < w'.heap.size), ⟨S1, T1', h1.only a3 fun i hi hT => h5 i hi hT, a1, fun i hi => .inl (h3 i hi), fun i hi => ?_, fun i hi hT1 => ?_, fun i hi => ?_⟩, fun i hi => hi.imp id fun h => h.1, a3.mono h4⟩
  · have hb : i < w'.heap.size := a1.bound i hi
    rcases a2 i hi with h | h
    · exact .inl (h4 i h)
    · exact .inr ⟨h, hb⟩
  · rcases a2 i hT1 with h | h
    · exact h5 i hi h
    · have := hS i hi; omega
  · rcases hi with hi | hi
    · exact Nat.lt_of_lt_of_le (h6 i hi) a3.size
    · exact hi.2
theorem DP.two {w : World} {S : Nat → Prop} {b c : Nat} {p : Nat × Nat × Nat} {s : Wd} {r : Rd} (h : DP w S b c p s r) : ∃ S1 T1, IsWd w S1 b p.1 s ∧ (∀ i, T1 i → i < w.heap.size) ∧ ∀ w1 s', AfterW w w1 S1 b p.1 s' → IsRd w1 T1 c p.2.1 p.2.2 r ∧ ∀ w2 r', AfterD w1 w2 T1 c p.2.1 p.2.2 r' → AfterP w w2 S b c p s' r' := by
  obtain ⟨S1, T1, h1, h2, h3, h4, h5, h6⟩ := h
  have hT : ∀ i, T1 i → i < w.heap.size := fun i hi => h6 i (h4 i hi)
  refine ⟨S1, T1, h1, hT, fun w1 s' ⟨S1', a1, a2, a3⟩ => ⟨h2.only a3 fun i hi hS => h5 i hS hi, fun w2 r' ha => ?_⟩⟩
  refine AfterP.trans (S1 := fun i => S i ∨ (w.heap.size ≤ i ∧ i < w1.heap.size)) (fun i hi => hi.imp id fun h => h.1) (a3.mono h3) (dp_rf (S1 := S1') (T1 := T1) a1 (fun i hi => ?_) (fun i hi => .inl (h4 i hi)) (fun i hi hT1 => ?_) (fun i hi => ?_) w2 r' ha)
  · have hb : i < w1.heap.size := a1.bound i hi
    rcases a2 i hi with h | h
    · exact .inl (h3 i h)
    · exact .inr ⟨h, hb⟩
  · rcases a2 i hi with h | h
    · exact h5 i h hT1
    · have := hT i hT1; omega
  · rcases hi with hi | hi
    · exact Nat.lt_of_lt_of_le (h6 i hi) a3.size
    · exact hi.2
theorem AfterP.low {w0 w w1 : World} {S : Nat → Prop} {b c : Nat} {p : Nat × Nat × Nat} {s : Wd} {r : Rd} (h : AfterP w w1 S b c p s r) (hb : Below w0.heap.size w0 w) (hS : ∀ i, S i → w0.heap.size ≤ i) : Below w0.heap.size w0 w1 := by
  obtain ⟨_, _, _, ho⟩ := h
  exact hb.trans (ho.below hb.size hS)
def AfterL (w w' : World) (S : Nat → Prop) (b g : Nat) (W : Wd) (v : Value) : Prop := ∃ S', IsWd w' S' b g W ∧ (∀ i, S' i → S i ∨ w.heap.size ≤ i) ∧ Only S w w' ∧ ∀ k, v.ownBlock = some k → ¬ S' k
theorem AfterL.of {w w' : World} {S : Nat → Prop} {b g : Nat} {W : Wd} {v : Value} (h : AfterW w w' S b g W) (hv : ∀ k, ¬ v.ownBlock = some k) : AfterL w w' S b g W v := by
  obtain ⟨S', h1, h2, h3⟩ := h
  exact ⟨S', h1, h2, h3, fun k hk => absurd hk (hv k)⟩
section
variable {w w' w1 w2 : World} {S : Nat → Prop} {b g : Nat} {W W' : Wd}
set_option maxHeartbeats 2000000 in
set_option maxRecDepth 20000 in
theorem wlist_any2 (h : IsWd w S b g W) (hc : W.calls ≤ 1000000) (hl : W.left < 9223372036854775808) (hs : ∀ x ∈ W.l, x.st.seen.length ≤ 1000000) (i : Int) : Calls Tryz.prog 35 #[ptr b, .int .i64 i] w fun e w' => ∃ v, e = .returned (.tuple #[v, er (listW W i).2]) ∧ w'.ownsRow w.heap.size 9 1 v (listW W i).1.length (nameCells (listW W i).1) ∧ AfterL w w' S b g (askW W i) v := by
  have HASK := hid (ask68_any h hc hl i (fun e w' => ∃ (v : Value) (z : Int), e = .returned (.tuple #[v, .int .i64 z]) ∧ z = (listW W i).2 ∧ w'.ownsRow w.heap.size 9 1 v (listW W i).1.length (nameCells (listW W i).1) ∧ AfterL w w' S b g (askW W i) v)
    (fun h0 => ⟨_, 1, rfl, by unfold listW; rw [if_neg h0], by unfold listW; rw [if_neg h0]; exact World.ownsRow_nil _ _ _ _, by unfold askW; rw [if_neg h0]; exact AfterL.of (AfterW.refl h) (fun k hk => by simp [Value.ownBlock] at hk)⟩)
    (fun h0 hd w1 ha => ⟨_, 56, rfl, by unfold listW; rw [if_pos h0, if_pos hd], by unfold listW; rw [if_pos h0, if_pos hd]; exact World.ownsRow_nil _ _ _ _, by unfold askW; rw [if_pos h0]; exact AfterL.of ha (fun k hk => by simp [Value.ownBlock] at hk)⟩)
    (fun h0 hd w1 ha x hx => by
      have e1 : listW W i = if x.st.down then ([], 51) else (x.st.seen, 0) := by unfold listW; rw [if_pos h0, if_neg (by rw [hd]; decide), hx]
      have e2 : askW W i = countW W := by unfold askW; rw [if_pos h0]
      have hxm : x ∈ W.l := by rw [countW_l] at hx; exact List.mem_of_getElem? hx
      rw [e1, e2]
      obtain ⟨S1, i1, s1, o1⟩ := ha
      obtain ⟨T, t1, _, _⟩ := i1.call hx
      refine (list_any t1 (hs x hxm)).mono fun e w' ⟨v, h1, h2, h3⟩ => ?_
      refine ⟨v, _, h1, v, _, h1, ?_, ?_, ⟨S1, i1.below h3, s1, o1.next h3, fun k hk hS => by have := i1.bound k hS; have := (h2.lt k hk).1; omega⟩⟩
      · cases x.st.down <;> rfl
      · have := row_base h2 o1.size
        cases hdn : x.st.down <;> (rw [hdn] at this; exact this)))
  unfold ptr at *
  unfold er
  clear h hc hl hs
  go_enter Tryz.func35, Tryz.ntmps35
  go_wp2_with fail
  refine HASK.out.mono ?_
  clear HASK
  rintro x w2 ⟨d, z, rfl, hz, hr, ha⟩
  have HZ := hid hz
  have HR := hid hr
  have HA := hid ha
  clear hz ha hr
  go_wp2_with fail
  go_ret2
  exact ⟨d, by rw [← HZ.out]; rfl, HR.out, HA.out⟩
end
theorem DP.listed {w : World} {S : Nat → Prop} {b c : Nat} {p : Nat × Nat × Nat} {s : Wd} {r : Rd} (h : DP w S b c p s r) : ∃ S1 T1, IsWd w S1 b p.1 s ∧ (∀ i, S1 i → S i) ∧ ∀ w1 v1 s', AfterL w w1 S1 b p.1 s' v1 → (∀ k, v1.ownBlock = some k → w.heap.size ≤ k ∧ k < w1.heap.size) → IsRd w1 T1 c p.2.1 p.2.2 r ∧ ∀ w2 r', AfterD w1 w2 T1 c p.2.1 p.2.2 r' → (∀ k, v1.ownBlock = some k → w2.heap[k]? = w1.heap[k]?) ∧ ∀ w3, Only (fun i => v1.ownBlock = some i) w2 w3 → AfterP w w3 S b c p s' r' := by
  obtain ⟨S1, T1, h1, h2, h3, h4, h5, h6⟩ := h
  have hT : ∀ i, T1 i → i < w.heap.size := fun i hi => h6 i (h4 i hi)
  refine ⟨S1, T1, h1, h3, fun w1 v1 s' ⟨S1', a1, a2, a3, a4⟩ hv => ⟨h2.only a3 fun i hi hS => h5 i hS hi, fun w2 r' ⟨T1', b1, b2, b3⟩ => ⟨fun k hk => b3.block k (hv k hk).2 fun hT1 => by have := hT k hT1; have := (hv k hk).1; omega, fun w3 ho => ?_⟩⟩⟩
  have hd : ∀ i, S1' i → ¬ T1 i := fun i hi hT1 => by
    rcases a2 i hi with h | h
    · exact h5 i h hT1
    · have := hT i hT1; omega
  have hvT : ∀ i, T1' i → ¬ v1.ownBlock = some i := fun i hi e => by
    rcases b2 i hi with h | h
    · have := hT i h; have := (hv i e).1; omega
    · have := (hv i e).2; omega
  have c1 := (a1.only b3 hd).only ho fun i hi e => a4 i e hi
  have c2 := b1.only ho hvT
  refine ⟨fun i => S i ∨ (w.heap.size ≤ i ∧ i < w3.heap.size), ⟨S1', T1', c1, c2, fun i hi => ?_, fun i hi => ?_, fun i hi hT1 => ?_, fun i hi => ?_⟩, fun i hi => hi.imp id fun h => h.1, ((a3.mono h3).trans (S' := T1) b3 fun i hi => .inl (h4 i hi)).trans ho fun i hi => .inr (hv i hi).1⟩
  · rcases a2 i hi with h | h
    · exact .inl (h3 i h)
    · exact .inr ⟨h, c1.bound i hi⟩
  · rcases b2 i hi with h | h
    · exact .inl (h4 i h)
    · exact .inr ⟨Nat.le_trans a3.size h, c2.bound i hi⟩
  · rcases b2 i hT1 with h | h
    · exact hd i hi h
    · have := a1.bound i hi; omega
  · rcases hi with hi | hi
    · exact Nat.lt_of_lt_of_le (h6 i hi) (Nat.le_trans a3.size (Nat.le_trans b3.size ho.size))
    · exact hi.2
def doF0 (b c B : Nat) (i : Int) (nm dt : ByteArray) (_fk _ft _fn _fa _fc e1 e2 : Int) (j : Nat) (v : Value) (_ : World) : Prop := match j with
  | 19 => v = .pointer (some ⟨b, 0, none⟩)
  | 20 => v = .pointer (some ⟨B, 1, none⟩)
  | 21 => v = .int .i64 i
  | 22 => v = .pointer (some ⟨B, 2, none⟩)
  | 23 => v = .agg #[.string nm, .string dt]
  | 24 => v = .int .i64 e1
  | 25 => v = .pointer (some ⟨c, 0, none⟩)
  | 26 => v = .pointer (some ⟨B, 1, none⟩)
  | 27 => v = .int .i64 i
  | 28 => v = .pointer (some ⟨B, 2, none⟩)
  | 29 => v = .agg #[.string nm, .string dt]
  | 30 => v = .int .i64 e2
  | 31 => v = .bool (decide (e1 = e2))
  | _ => True
def doF2 (b c B : Nat) (i : Int) (nm _dt : ByteArray) (_fk _ft _fn _fa _fc e1 e2 : Int) (j : Nat) (v : Value) (_ : World) : Prop := match j with
  | 64 => v = .pointer (some ⟨b, 0, none⟩)
  | 65 => v = .pointer (some ⟨B, 1, none⟩)
  | 66 => v = .int .i64 i
  | 67 => v = .pointer (some ⟨B, 2, none⟩)
  | 68 => v = .pointer (some ⟨B, 2, none⟩)
  | 69 => v = .string nm
  | 70 => v = .int .i64 e1
  | 71 => v = .pointer (some ⟨c, 0, none⟩)
  | 72 => v = .pointer (some ⟨B, 1, none⟩)
  | 73 => v = .int .i64 i
  | 74 => v = .pointer (some ⟨B, 2, none⟩)
  | 75 => v = .pointer (some ⟨B, 2, none⟩)
  | 76 => v = .string nm
  | 77 => v = .int .i64 e2
  | 78 => v = .bool (decide (e1 = e2))
  | _ => True
def doF4 (b c B : Nat) (i : Int) (_nm _dt : ByteArray) (_fk _ft _fn _fa _fc e1 e2 : Int) (j : Nat) (v : Value) (_ : World) : Prop := match j with
  | 105 => v = .pointer (some ⟨b, 0, none⟩)
  | 106 => v = .pointer (some ⟨B, 1, none⟩)
  | 107 => v = .int .i64 i
  | 108 => v = .int .i64 e1
  | 109 => v = .pointer (some ⟨c, 0, none⟩)
  | 110 => v = .pointer (some ⟨B, 1, none⟩)
  | 111 => v = .int .i64 i
  | 112 => v = .int .i64 e2
  | 113 => v = .bool (decide (e1 = e2))
  | _ => True
def doF5 (b c B : Nat) (i : Int) (_nm _dt : ByteArray) (_fk _ft _fn _fa _fc e1 e2 : Int) (j : Nat) (v : Value) (_ : World) : Prop := match j with
  | 116 => v = .pointer (some ⟨b, 0, none⟩)
  | 117 => v = .pointer (some ⟨B, 1, none⟩)
  | 118 => v = .int .i64 i
  | 119 => v = .int .i64 e1
  | 120 => v = .pointer (some ⟨c, 0, none⟩)
  | 121 => v = .pointer (some ⟨B, 1, none⟩)
  | 122 => v = .int .i64 i
  | 123 => v = .int .i64 e2
  | 124 => v = .bool (decide (e1 = e2))
  | _ => True
def doF7 (b c B : Nat) (_i : Int) (_nm _dt : ByteArray) (fk ft fn fa fc e1 e2 : Int) (j : Nat) (v : Value) (_ : World) : Prop := match j with
  | 138 => v = .pointer (some ⟨b, 0, none⟩)
  | 139 => v = .pointer (some ⟨B, 5, none⟩)
  | 140 => v = .agg #[.int .u8 fk, .int .i64 ft, .int .i64 fn, .int .i64 fa, .int .i64 fc]
  | 141 => v = .int .i64 e1
  | 142 => v = .pointer (some ⟨c, 0, none⟩)
  | 143 => v = .pointer (some ⟨B, 5, none⟩)
  | 144 => v = .agg #[.int .u8 fk, .int .i64 ft, .int .i64 fn, .int .i64 fa, .int .i64 fc]
  | 145 => v = .int .i64 e2
  | 146 => v = .bool (decide (e1 = e2))
  | _ => True
section
variable {ev : Operand → Value} {o : Oper} {w : World} {x y : Operand}
theorem enw14 (args : Array Value) : (callFunc 14 args).run Tryz.prog w = .ok (.enter 14 args) w := by kernel_rfl
theorem enw31 (args : Array Value) : (callFunc 31 args).run Tryz.prog w = .ok (.enter 31 args) w := by kernel_rfl
theorem enw33 (args : Array Value) : (callFunc 33 args).run Tryz.prog w = .ok (.enter 33 args) w := by kernel_rfl
theorem enw34 (args : Array Value) : (callFunc 34 args).run Tryz.prog w = .ok (.enter 34 args) w := by kernel_rfl
theorem enw15 (args : Array Value) : (callFunc 15 args).run Tryz.prog w = .ok (.enter 15 args) w := by kernel_rfl
theorem enw38 (args : Array Value) : (callFunc 38 args).run Tryz.prog w = .ok (.enter 38 args) w := by kernel_rfl
theorem enw18 (args : Array Value) : (callFunc 18 args).run Tryz.prog w = .ok (.enter 18 args) w := by kernel_rfl
theorem enw39 (args : Array Value) : (callFunc 39 args).run Tryz.prog w = .ok (.enter 39 args) w := by kernel_rfl
theorem enw41 (args : Array Value) : (callFunc 41 args).run Tryz.prog w = .ok (.enter 41 args) w := by kernel_rfl
theorem enw42 (args : Array Value) : (callFunc 42 args).run Tryz.prog w = .ok (.enter 42 args) w := by kernel_rfl
theorem rn_f40_1 {g k : Nat} (ho : o.op = .fieldAddr 40 x 1) (hx : ev x = .pointer (some ⟨g, k, none⟩)) : (execOp ev o).run Tryz.prog w = .ok (.value (.pointer (some ⟨g, k + 1, none⟩))) w := by
  simp [execOp, ho, hx, go_sem]
theorem rn_f40_2 {g k : Nat} (ho : o.op = .fieldAddr 40 x 2) (hx : ev x = .pointer (some ⟨g, k, none⟩)) : (execOp ev o).run Tryz.prog w = .ok (.value (.pointer (some ⟨g, k + 2, none⟩))) w := by
  simp [execOp, ho, hx, go_sem]
theorem rn_f40_4 {g k : Nat} (ho : o.op = .fieldAddr 40 x 4) (hx : ev x = .pointer (some ⟨g, k, none⟩)) : (execOp ev o).run Tryz.prog w = .ok (.value (.pointer (some ⟨g, k + 5, none⟩))) w := by
  simp [execOp, ho, hx, go_sem]
end
set_option maxHeartbeats 8000000 in
set_option maxRecDepth 20000 in
theorem do_any {w0 w : World} {S : Nat → Prop} {b c N : Nat} {p : Nat × Nat × Nat} {s : Wd} {r : Rd} {x : Sp} (h : DP w S b c p s r) (ht : Pair N s r) (hN : N ≤ 100000) (hcl : s.calls ≤ 1000000) (hlen : s.l.length ≤ 1000) (hx : SpOk w0 x) (hb0 : Below w0.heap.size w0 w) (hS : ∀ i, S i → w0.heap.size ≤ i) : Calls Tryz.prog 12 #[.agg (spcells x).toArray, ptr b, ptr c] w fun e w' => e = .returned (.bool true) ∧ AfterP w w' S b c p (doW s x) (doD r x) := by
  have HDID := hid (ht.did hx)
  obtain ⟨kd, i, nm, dt, lv, sv, fk, ft, fn, fa, fc⟩ := x
  have hf0 := hx.fk0
  have hf1 := hx.fk1
  have hf2 := hx.fn
  have hf3 := hx.fa
  have hk256 := hx.kd
  have hnm := hx.nm
  have hi63 := hx.i
  have HLV := hid hx.lv
  have HSL := hid hx.sl
  simp only at hf0 hf1 hf2 hf3 hk256 hnm hi63 HLV HSL
  clear hx
  unfold spcells doW doD
  simp only
  have HC := hid hcl
  have HCR : Hid (r.calls ≤ 1000000) := hid (by rw [← ht.calls]; exact hcl)
  have HLS := hid ht.wl
  have HLR := hid ht.rl
  have HF := hid ht.fit
  have HN : Hid (N ≤ 1000000) := hid (by omega)
  have HSM := hid (ht.small HN.out)
  have HNS : Hid (¬ S w.heap.size) := hid fun hS => by obtain ⟨_, _, _, _, _, _, _, h6⟩ := h; have := h6 _ hS; omega
  have HTW := hid ht
  have HLEN := hid hlen
  have HB0 := hid hb0
  have HS0 := hid hS
  clear ht hcl hlen hb0 hS
  by_cases h0 : kd = 0
  · subst h0
    have HT2 := hid (HTW.out.ask i (f := fun s => putS s nm dt) (f' := fun r => putR r nm dt) fun s r ht => ht.put nm dt)
    simp only [if_true]
    have HB := hid (boxed w (.cells #[.int .u8 0, .int .i64 i, .string nm, .string dt, lv, .int .u8 fk, .int .i64 ft, .int .i64 fn, .int .i64 fa, .int .i64 fc] 40))
    have HBX := hid (Has.new w w.heap.size #[.int .u8 0, .int .i64 i, .string nm, .string dt, lv, .int .u8 fk, .int .i64 ft, .int .i64 fn, .int .i64 fa, .int .i64 fc] 40 rfl)
    have HD := hid (h.below HB.out)
    have b0 := HBX.out.cell 0
    have b1 := HBX.out.cell 1
    have b2 := HBX.out.cell 2
    have b4 := HBX.out.cell 4
    obtain ⟨wa, hwa⟩ : ∃ wa, wa = w.alloc (.cells #[.int .u8 0, .int .i64 i, .string nm, .string dt, lv, .int .u8 fk, .int .i64 ft, .int .i64 fn, .int .i64 fa, .int .i64 fc] 40) := ⟨_, rfl⟩
    rw [← hwa] at HB HBX HD b0 b1 b2 b4
    unfold ptr
    go_enter Tryz.func12, Tryz.ntmps12
    go_wp2_with fail
    rw [← hwa]
    clear hwa
    refine Tl.wp_mixL_lit (by kernel_rfl) 13 [19, 20, 21, 22, 23, 24, 25, 26, 27, 28, 29, 30, 31] 151 rfl (by kernel_rfl) (Tl.Two 5 11 (fun W => AfterP wa W S b c p s r) (fun W => AfterP wa W S b c p (askS s i (fun s => putS s nm dt)).2 r) (fun W => AfterP wa W S b c p (askS s i (fun s => putS s nm dt)).2 (askD r i (fun r => putR r nm dt)).2)) (doF0 b c w.heap.size i nm dt fk ft fn fa fc (askS s i (fun s => putS s nm dt)).1 (askD r i (fun r => putR r nm dt)).1) (show Tl.Two _ _ _ _ _ _ _ from by unfold Tl.Two; rw [if_neg (by decide)]; exact (AfterP.refl HD.out).next (Below.refl _ _).drew)
      ⟨fun l a' W' hsz hl hcl hed hC hF => ?_, fun l a' W' hsz hl hcl hed hC hF => ?_, fun l a' W' hsz hl hcl hed hC hF => ?_, fun l a' W' hsz hl hcl hed hC hF => ?_, fun l a' W' hsz hl hcl hed hC hF => ?_, fun l a' W' hsz hl hcl hed hC hF => ?_, fun l a' W' hsz hl hcl hed hC hF => ?_, fun l a' W' hsz hl hcl hed hC hF => ?_, fun l a' W' hsz hl hcl hed hC hF => ?_, fun l a' W' hsz hl hcl hed hC hF => ?_, fun l a' W' hsz hl hcl hed hC hF => ?_, fun l a' W' hsz hl hcl hed hC hF => ?_, fun l a' W' hsz hl hcl hed hC hF => ?_, trivial⟩ ?_
    · exact Tl.sl_v 19 _ rfl (Tl.wanted_none rfl) (hC.other (by decide) (by decide)) rfl (rn_move rfl ((hF 1 (by decide +kernel)).2 (by decide)))
    · exact Tl.sl_v 20 _ rfl (Tl.wanted_none rfl) (hC.other (by decide) (by decide)) rfl (rn_f40_1 rfl ((hF 3 (by decide +kernel)).2 (by decide)))
    · exact Tl.sl_v 21 _ rfl (Tl.wanted_none rfl) (hC.other (by decide) (by decide)) rfl (rn_load3 rfl ((hF 20 (by decide +kernel)).1 (by decide)) ((hC.any (Y := fun W => Has W w.heap.size #[.int .u8 0, .int .i64 i, .string nm, .string dt, lv, .int .u8 fk, .int .i64 ft, .int .i64 fn, .int .i64 fa, .int .i64 fc] 40) (fun h => h.has HBX.out HNS.out) (fun h => h.has HBX.out HNS.out) (fun h => h.has HBX.out HNS.out)).cell 1))
    · exact Tl.sl_v 22 _ rfl (Tl.wanted_none rfl) (hC.other (by decide) (by decide)) rfl (rn_f40_2 rfl ((hF 3 (by decide +kernel)).2 (by decide)))
    · exact Tl.sl_v 23 _ rfl (Tl.wanted_none rfl) (hC.other (by decide) (by decide)) rfl (rn_load28 rfl ((hF 22 (by decide +kernel)).1 (by decide)) ((hC.any (Y := fun W => Has W w.heap.size #[.int .u8 0, .int .i64 i, .string nm, .string dt, lv, .int .u8 fk, .int .i64 ft, .int .i64 fn, .int .i64 fa, .int .i64 fc] 40) (fun h => h.has HBX.out HNS.out) (fun h => h.has HBX.out HNS.out) (fun h => h.has HBX.out HNS.out)).cell 2) ((hC.any (Y := fun W => Has W w.heap.size #[.int .u8 0, .int .i64 i, .string nm, .string dt, lv, .int .u8 fk, .int .i64 ft, .int .i64 fn, .int .i64 fa, .int .i64 fc] 40) (fun h => h.has HBX.out HNS.out) (fun h => h.has HBX.out HNS.out) (fun h => h.has HBX.out HNS.out)).cell 3))
    · obtain ⟨S1, k1, k2, k3⟩ := (hC.first hl).st
      refine Tl.sl_call 14 #[.pointer (some ⟨b, 0, none⟩), .int .i64 i, .agg #[.string nm, .string dt]] (Tl.wanted_none rfl) (rn_call3 rfl rfl ((hF 19 (by decide +kernel)).1 (by decide)) ((hF 21 (by decide +kernel)).1 (by decide)) ((hF 23 (by decide +kernel)).1 (by decide)) (enw14 _)) ((wput_any k1 HC.out HLS.out HF.out HN.out i nm dt).mono ?_)
      rintro e w'' ⟨rfl, ha⟩
      exact ⟨_, rfl, Tl.Two.did (by decide) hcl (by kernel_rfl) hl (by rw [hsz]; decide) (k3 _ _ ha), fun _ _ _ h => h, fun d hd => by cases hd; rfl⟩
    · exact Tl.sl_v 25 _ rfl (Tl.wanted_none rfl) (hC.other (by decide) (by decide)) rfl (rn_move rfl ((hF 2 (by decide +kernel)).2 (by decide)))
    · exact Tl.sl_v 26 _ rfl (Tl.wanted_none rfl) (hC.other (by decide) (by decide)) rfl (rn_f40_1 rfl ((hF 3 (by decide +kernel)).2 (by decide)))
    · exact Tl.sl_v 27 _ rfl (Tl.wanted_none rfl) (hC.other (by decide) (by decide)) rfl (rn_load3 rfl ((hF 26 (by decide +kernel)).1 (by decide)) ((hC.any (Y := fun W => Has W w.heap.size #[.int .u8 0, .int .i64 i, .string nm, .string dt, lv, .int .u8 fk, .int .i64 ft, .int .i64 fn, .int .i64 fa, .int .i64 fc] 40) (fun h => h.has HBX.out HNS.out) (fun h => h.has HBX.out HNS.out) (fun h => h.has HBX.out HNS.out)).cell 1))
    · exact Tl.sl_v 28 _ rfl (Tl.wanted_none rfl) (hC.other (by decide) (by decide)) rfl (rn_f40_2 rfl ((hF 3 (by decide +kernel)).2 (by decide)))
    · exact Tl.sl_v 29 _ rfl (Tl.wanted_none rfl) (hC.other (by decide) (by decide)) rfl (rn_load28 rfl ((hF 28 (by decide +kernel)).1 (by decide)) ((hC.any (Y := fun W => Has W w.heap.size #[.int .u8 0, .int .i64 i, .string nm, .string dt, lv, .int .u8 fk, .int .i64 ft, .int .i64 fn, .int .i64 fa, .int .i64 fc] 40) (fun h => h.has HBX.out HNS.out) (fun h => h.has HBX.out HNS.out) (fun h => h.has HBX.out HNS.out)).cell 2) ((hC.any (Y := fun W => Has W w.heap.size #[.int .u8 0, .int .i64 i, .string nm, .string dt, lv, .int .u8 fk, .int .i64 ft, .int .i64 fn, .int .i64 fa, .int .i64 fc] 40) (fun h => h.has HBX.out HNS.out) (fun h => h.has HBX.out HNS.out) (fun h => h.has HBX.out HNS.out)).cell 3))
    · obtain ⟨S1, k1, k2, k3⟩ := (hC.second (hed 5 (by kernel_rfl)) hl).rf
      refine Tl.sl_call 31 #[.pointer (some ⟨c, 0, none⟩), .int .i64 i, .agg #[.string nm, .string dt]] (Tl.wanted_none rfl) (rn_call3 rfl rfl ((hF 25 (by decide +kernel)).1 (by decide)) ((hF 27 (by decide +kernel)).1 (by decide)) ((hF 29 (by decide +kernel)).1 (by decide)) (enw31 _)) ((dput_any k1 HCR.out HLR.out HSM.out i nm dt).mono ?_)
      rintro e w'' ⟨rfl, ha⟩
      exact ⟨_, rfl, Tl.Two.both (by decide) (hed 5 (by kernel_rfl)) (by rw [hsz]; decide) (k3 _ _ ha), fun _ _ _ h => h, fun d hd => by cases hd; rfl⟩
    · exact Tl.sl_v 31 _ rfl (Tl.wanted_none rfl) (hC.other (by decide) (by decide)) rfl (rn_eql25 rfl ((hF 24 (by decide +kernel)).1 (by decide)) ((hF 30 (by decide +kernel)).1 (by decide)) rfl)
    intro k v W2 hk hC hv
    have hX2 := hC.last (hk 5 (by decide)) (hk 11 (by decide))
    have vv : v 31 = .bool (decide ((askS s i (fun s => putS s nm dt)).1 = (askD r i (fun r => putR r nm dt)).1)) := hv 31 (by decide)
    rw [decide_eq_true HT2.out.1.symm] at vv
    have HX2 := hid (AfterP.front HB.out hX2)
    clear hk hC hv hX2
    simp only [Tl.fill, List.drop_succ_cons, List.drop_zero, wpList]
    rw [if_pos (Tl.wanted_none rfl)]
    simp only [Act.put, List.setIfInBounds_toArray, List.set_cons_succ, List.set_cons_zero, vv]
    clear vv
    refine .inl (wp_assign (x := .tmp 31) (d := 6) (v := .bool true) ?_ ?_ ?_ ?_)
    · rfl
    · rfl
    · rfl
    simp only [Act.put, List.setIfInBounds_toArray, List.set_cons_succ, List.set_cons_zero]
    go_wp2_with fail
    go_ret
    exact ⟨rfl, HX2.out⟩
  have e0 : ((kd : Int) == 0) = false := beq_eq_false_iff_ne.2 (by omega)
  rw [if_neg h0, if_neg h0]
  by_cases h1 : kd = 1
  · subst h1
    simp only [if_true]
    have HG := hid (HTW.out.get i nm)
    have HB := hid (boxed w (.cells #[.int .u8 1, .int .i64 i, .string nm, .string dt, lv, .int .u8 fk, .int .i64 ft, .int .i64 fn, .int .i64 fa, .int .i64 fc] 40))
    have HBX := hid (Has.new w w.heap.size #[.int .u8 1, .int .i64 i, .string nm, .string dt, lv, .int .u8 fk, .int .i64 ft, .int .i64 fn, .int .i64 fa, .int .i64 fc] 40 rfl)
    have HD := hid (h.below HB.out)
    have b0 := HBX.out.cell 0
    have b1 := HBX.out.cell 1
    have b2 := HBX.out.cell 2
    have b4 := HBX.out.cell 4
    obtain ⟨wa, hwa⟩ : ∃ wa, wa = w.alloc (.cells #[.int .u8 1, .int .i64 i, .string nm, .string dt, lv, .int .u8 fk, .int .i64 ft, .int .i64 fn, .int .i64 fa, .int .i64 fc] 40) := ⟨_, rfl⟩
    rw [← hwa] at HB HBX HD b0 b1 b2 b4
    unfold ptr
    go_enter Tryz.func12, Tryz.ntmps12
    go_wp2_with fail
    rw [← hwa]
    clear hwa
    obtain ⟨S1, k1, _, k3⟩ := (AfterP.refl HD.out).st
    refine (wget_any k1 HC.out HLS.out i nm hnm).mono ?_
    rintro x w1 ⟨rfl, ha1⟩
    have HA1 := hid (k3 _ _ ha1)
    obtain ⟨T1, t1, _, t3⟩ := HA1.out.rf
    have HRG := dget_any t1 HCR.out HLR.out HSM.out i nm
    rw [HG.out] at HRG
    have hbx := HA1.out.has HBX.out HNS.out
    have b1' := hbx.cell 1
    have b2' := hbx.cell 2
    have HT3 := hid t3
    unfold er
    unfold ptr at HRG
    clear HG k1 k3 ha1 t1 t3 b0 b1 b2 b4 hbx
    generalize (getW s i nm).1 = d0 at *
    generalize (getW s i nm).2 = z0 at *
    go_wp2_with fail
    refine HRG.mono ?_
    clear HRG
    rintro x w2 ⟨rfl, ha2⟩
    have HA2 := hid (HT3.out _ _ ha2)
    clear ha2 HT3
    unfold er
    have q1 : (d0.toList == d0.toList) = true := by simp
    have q2 : (z0 == z0) = true := by simp
    go_wp2_with fail
    go_ret
    exact ⟨rfl, AfterP.front HB.out HA2.out⟩
  have e1 : ((kd : Int) == 1) = false := beq_eq_false_iff_ne.2 (by omega)
  rw [if_neg h1, if_neg h1]
  by_cases h2 : kd = 2
  · subst h2
    simp only [if_true]
    have HT2 := hid (HTW.out.ask i (f := fun s => delS s nm) (f' := fun r => delR r nm) fun s r ht => ht.del nm)
    have HB := hid (boxed w (.cells #[.int .u8 2, .int .i64 i, .string nm, .string dt, lv, .int .u8 fk, .int .i64 ft, .int .i64 fn, .int .i64 fa, .int .i64 fc] 40))
    have HBX := hid (Has.new w w.heap.size #[.int .u8 2, .int .i64 i, .string nm, .string dt, lv, .int .u8 fk, .int .i64 ft, .int .i64 fn, .int .i64 fa, .int .i64 fc] 40 rfl)
    have HD := hid (h.below HB.out)
    have b0 := HBX.out.cell 0
    have b1 := HBX.out.cell 1
    have b2 := HBX.out.cell 2
    have b4 := HBX.out.cell 4
    obtain ⟨wa, hwa⟩ : ∃ wa, wa = w.alloc (.cells #[.int .u8 2, .int .i64 i, .string nm, .string dt, lv, .int .u8 fk, .int .i64 ft, .int .i64 fn, .int .i64 fa, .int .i64 fc] 40) := ⟨_, rfl⟩
    rw [← hwa] at HB HBX HD b0 b1 b2 b4
    unfold ptr
    go_enter Tryz.func12, Tryz.ntmps12
    go_wp2_with fail
    rw [← hwa]
    clear hwa
    refine Tl.wp_mixL_lit (by kernel_rfl) 15 [64, 65, 66, 67, 68, 69, 70, 71, 72, 73, 74, 75, 76, 77, 78] 151 rfl (by kernel_rfl) (Tl.Two 6 13 (fun W => AfterP wa W S b c p s r) (fun W => AfterP wa W S b c p (askS s i (fun s => delS s nm)).2 r) (fun W => AfterP wa W S b c p (askS s i (fun s => delS s nm)).2 (askD r i (fun r => delR r nm)).2)) (doF2 b c w.heap.size i nm dt fk ft fn fa fc (askS s i (fun s => delS s nm)).1 (askD r i (fun r => delR r nm)).1) (show Tl.Two _ _ _ _ _ _ _ from by unfold Tl.Two; rw [if_neg (by decide)]; exact (AfterP.refl HD.out).next (Below.refl _ _).drew)
      ⟨fun l a' W' hsz hl hcl hed hC hF => ?_, fun l a' W' hsz hl hcl hed hC hF => ?_, fun l a' W' hsz hl hcl hed hC hF => ?_, fun l a' W' hsz hl hcl hed hC hF => ?_, fun l a' W' hsz hl hcl hed hC hF => ?_, fun l a' W' hsz hl hcl hed hC hF => ?_, fun l a' W' hsz hl hcl hed hC hF => ?_, fun l a' W' hsz hl hcl hed hC hF => ?_, fun l a' W' hsz hl hcl hed hC hF => ?_, fun l a' W' hsz hl hcl hed hC hF => ?_, fun l a' W' hsz hl hcl hed hC hF => ?_, fun l a' W' hsz hl hcl hed hC hF => ?_, fun l a' W' hsz hl hcl hed hC hF => ?_, fun l a' W' hsz hl hcl hed hC hF => ?_, fun l a' W' hsz hl hcl hed hC hF => ?_, trivial⟩ ?_
    · exact Tl.sl_v 64 _ rfl (Tl.wanted_none rfl) (hC.other (by decide) (by decide)) rfl (rn_move rfl ((hF 1 (by decide +kernel)).2 (by decide)))
    · exact Tl.sl_v 65 _ rfl (Tl.wanted_none rfl) (hC.other (by decide) (by decide)) rfl (rn_f40_1 rfl ((hF 3 (by decide +kernel)).2 (by decide)))
    · exact Tl.sl_v 66 _ rfl (Tl.wanted_none rfl) (hC.other (by decide) (by decide)) rfl (rn_load3 rfl ((hF 65 (by decide +kernel)).1 (by decide)) ((hC.any (Y := fun W => Has W w.heap.size #[.int .u8 2, .int .i64 i, .string nm, .string dt, lv, .int .u8 fk, .int .i64 ft, .int .i64 fn, .int .i64 fa, .int .i64 fc] 40) (fun h => h.has HBX.out HNS.out) (fun h => h.has HBX.out HNS.out) (fun h => h.has HBX.out HNS.out)).cell 1))
    · exact Tl.sl_v 67 _ rfl (Tl.wanted_none rfl) (hC.other (by decide) (by decide)) rfl (rn_f40_2 rfl ((hF 3 (by decide +kernel)).2 (by decide)))
    · exact Tl.sl_v 68 _ rfl (Tl.wanted_none rfl) (hC.other (by decide) (by decide)) rfl (rn_f28_0 rfl ((hF 67 (by decide +kernel)).1 (by decide)))
    · exact Tl.sl_v 69 _ rfl (Tl.wanted_none rfl) (hC.other (by decide) (by decide)) rfl (rn_load9 rfl ((hF 68 (by decide +kernel)).1 (by decide)) ((hC.any (Y := fun W => Has W w.heap.size #[.int .u8 2, .int .i64 i, .string nm, .string dt, lv, .int .u8 fk, .int .i64 ft, .int .i64 fn, .int .i64 fa, .int .i64 fc] 40) (fun h => h.has HBX.out HNS.out) (fun h => h.has HBX.out HNS.out) (fun h => h.has HBX.out HNS.out)).cell 2))
    · obtain ⟨S1, k1, k2, k3⟩ := (hC.first hl).st
      refine Tl.sl_call 33 #[.pointer (some ⟨b, 0, none⟩), .int .i64 i, .string nm] (Tl.wanted_none rfl) (rn_call3 rfl rfl ((hF 64 (by decide +kernel)).1 (by decide)) ((hF 66 (by decide +kernel)).1 (by decide)) ((hF 69 (by decide +kernel)).1 (by decide)) (enw33 _)) ((wdel_any k1 HC.out HLS.out HF.out HN.out i nm hnm).mono ?_)
      rintro e w'' ⟨rfl, ha⟩
      exact ⟨_, rfl, Tl.Two.did (by decide) hcl (by kernel_rfl) hl (by rw [hsz]; decide) (k3 _ _ ha), fun _ _ _ h => h, fun d hd => by cases hd; rfl⟩
    · exact Tl.sl_v 71 _ rfl (Tl.wanted_none rfl) (hC.other (by decide) (by decide)) rfl (rn_move rfl ((hF 2 (by decide +kernel)).2 (by decide)))
    · exact Tl.sl_v 72 _ rfl (Tl.wanted_none rfl) (hC.other (by decide) (by decide)) rfl (rn_f40_1 rfl ((hF 3 (by decide +kernel)).2 (by decide)))
    · exact Tl.sl_v 73 _ rfl (Tl.wanted_none rfl) (hC.other (by decide) (by decide)) rfl (rn_load3 rfl ((hF 72 (by decide +kernel)).1 (by decide)) ((hC.any (Y := fun W => Has W w.heap.size #[.int .u8 2, .int .i64 i, .string nm, .string dt, lv, .int .u8 fk, .int .i64 ft, .int .i64 fn, .int .i64 fa, .int .i64 fc] 40) (fun h => h.has HBX.out HNS.out) (fun h => h.has HBX.out HNS.out) (fun h => h.has HBX.out HNS.out)).cell 1))
    · exact Tl.sl_v 74 _ rfl (Tl.wanted_none rfl) (hC.other (by decide) (by decide)) rfl (rn_f40_2 rfl ((hF 3 (by decide +kernel)).2 (by decide)))
    · exact Tl.sl_v 75 _ rfl (Tl.wanted_none rfl) (hC.other (by decide) (by decide)) rfl (rn_f28_0 rfl ((hF 74 (by decide +kernel)).1 (by decide)))
    · exact Tl.sl_v 76 _ rfl (Tl.wanted_none rfl) (hC.other (by decide) (by decide)) rfl (rn_load9 rfl ((hF 75 (by decide +kernel)).1 (by decide)) ((hC.any (Y := fun W => Has W w.heap.size #[.int .u8 2, .int .i64 i, .string nm, .string dt, lv, .int .u8 fk, .int .i64 ft, .int .i64 fn, .int .i64 fa, .int .i64 fc] 40) (fun h => h.has HBX.out HNS.out) (fun h => h.has HBX.out HNS.out) (fun h => h.has HBX.out HNS.out)).cell 2))
    · obtain ⟨S1, k1, k2, k3⟩ := (hC.second (hed 6 (by kernel_rfl)) hl).rf
      refine Tl.sl_call 34 #[.pointer (some ⟨c, 0, none⟩), .int .i64 i, .string nm] (Tl.wanted_none rfl) (rn_call3 rfl rfl ((hF 71 (by decide +kernel)).1 (by decide)) ((hF 73 (by decide +kernel)).1 (by decide)) ((hF 76 (by decide +kernel)).1 (by decide)) (enw34 _)) ((ddel_any k1 HCR.out HLR.out HSM.out i nm).mono ?_)
      rintro e w'' ⟨rfl, ha⟩
      exact ⟨_, rfl, Tl.Two.both (by decide) (hed 6 (by kernel_rfl)) (by rw [hsz]; decide) (k3 _ _ ha), fun _ _ _ h => h, fun d hd => by cases hd; rfl⟩
    · exact Tl.sl_v 78 _ rfl (Tl.wanted_none rfl) (hC.other (by decide) (by decide)) rfl (rn_eql25 rfl ((hF 70 (by decide +kernel)).1 (by decide)) ((hF 77 (by decide +kernel)).1 (by decide)) rfl)
    intro k v W2 hk hC hv
    have hX2 := hC.last (hk 6 (by decide)) (hk 13 (by decide))
    have vv : v 78 = .bool (decide ((askS s i (fun s => delS s nm)).1 = (askD r i (fun r => delR r nm)).1)) := hv 78 (by decide)
    rw [decide_eq_true HT2.out.1.symm] at vv
    have HX2 := hid (AfterP.front HB.out hX2)
    clear hk hC hv hX2
    simp only [Tl.fill, List.drop_succ_cons, List.drop_zero, wpList]
    rw [if_pos (Tl.wanted_none rfl)]
    simp only [Act.put, List.setIfInBounds_toArray, List.set_cons_succ, List.set_cons_zero, vv]
    clear vv
    refine .inl (wp_assign (x := .tmp 78) (d := 6) (v := .bool true) ?_ ?_ ?_ ?_)
    · rfl
    · rfl
    · rfl
    simp only [Act.put, List.setIfInBounds_toArray, List.set_cons_succ, List.set_cons_zero]
    go_wp2_with fail
    go_ret
    exact ⟨rfl, HX2.out⟩
  have e2 : ((kd : Int) == 2) = false := beq_eq_false_iff_ne.2 (by omega)
  rw [if_neg h2, if_neg h2]
  by_cases h3 : kd = 3
  · subst h3
    simp only [if_true]
    have HG := hid (HTW.out.list i)
    have HB := hid (boxed w (.cells #[.int .u8 3, .int .i64 i, .string nm, .string dt, lv, .int .u8 fk, .int .i64 ft, .int .i64 fn, .int .i64 fa, .int .i64 fc] 40))
    have HBX := hid (Has.new w w.heap.size #[.int .u8 3, .int .i64 i, .string nm, .string dt, lv, .int .u8 fk, .int .i64 ft, .int .i64 fn, .int .i64 fa, .int .i64 fc] 40 rfl)
    have HD := hid (h.below HB.out)
    have b0 := HBX.out.cell 0
    have b1 := HBX.out.cell 1
    have b2 := HBX.out.cell 2
    have b4 := HBX.out.cell 4
    obtain ⟨wa, hwa⟩ : ∃ wa, wa = w.alloc (.cells #[.int .u8 3, .int .i64 i, .string nm, .string dt, lv, .int .u8 fk, .int .i64 ft, .int .i64 fn, .int .i64 fa, .int .i64 fc] 40) := ⟨_, rfl⟩
    rw [← hwa] at HB HBX HD b0 b1 b2 b4
    unfold ptr
    go_enter Tryz.func12, Tryz.ntmps12
    go_wp2_with fail
    rw [← hwa]
    clear hwa
    have hML : (listW s i).1.length ≤ 1000000 := by
      unfold listW
      split
      · split
        · exact Nat.zero_le _
        · split
          · rename_i y hy
            split
            · exact Nat.zero_le _
            · rw [countW_l] at hy
              exact HTW.out.seenlen HN.out y (List.mem_of_getElem? hy)
          · exact Nat.zero_le _
      · exact Nat.zero_le _
    obtain ⟨S1, T1, k1, k2, k3⟩ := HD.out.listed
    refine (wlist_any2 k1 HC.out HLS.out (HTW.out.seenlen HN.out) i).mono ?_
    rintro x w1 ⟨v1, rfl, hr1, ha1⟩
    have hbx : Has w1 w.heap.size #[.int .u8 3, .int .i64 i, .string nm, .string dt, lv, .int .u8 fk, .int .i64 ft, .int .i64 fn, .int .i64 fa, .int .i64 fc] 40 := by
      obtain ⟨_, _, _, ho, _⟩ := ha1
      exact ho.has HBX.out fun hS1 => HNS.out (k2 _ hS1)
    have HW1 : Hid (wa.heap.size ≤ w1.heap.size) := hid (by obtain ⟨_, _, _, ho, _⟩ := ha1; exact ho.size)
    have b1' := hbx.cell 1
    obtain ⟨t1, t3⟩ := k3 w1 v1 _ ha1 (fun k hk => hr1.lt k hk)
    have HRL := dlist_any t1 HCR.out HLR.out HSM.out i
    rw [HG.out] at HRL
    have HR1 := hid hr1
    have HT3 := hid t3
    unfold er at *
    unfold ptr at HRL
    clear HG k1 k2 k3 ha1 t1 t3 hr1 b0 b1 b2 b4 hbx
    generalize (listW s i).1 = M at *
    generalize (listW s i).2 = z0 at *
    go_wp2_with fail
    refine HRL.mono ?_
    clear HRL
    rintro x w2 ⟨v2, rfl, hr2, ha2⟩
    obtain ⟨f1, f2⟩ := HT3.out _ _ ha2
    have hsz : w1.heap.size ≤ w2.heap.size := by obtain ⟨_, _, _, ho⟩ := ha2; exact ho.size
    have HTX := texts_any (row_block HR1.out fun k hk hl => f1 k hk) hr2 (fun k hk => (HR1.out.lt k hk).2) (Nat.le_trans HW1.out hsz) hML
    have HF2 := hid f2
    clear f1 f2 hr2 ha2 hsz HT3
    go_wp2_with fail
    refine HTX.mono ?_
    clear HTX
    rintro x w3 ⟨rfl, _, ho3⟩
    have HA3 := hid (HF2.out _ ho3)
    clear ho3 HF2
    have q2 : (z0 == z0) = true := by simp
    go_wp2_with fail
    go_ret
    exact ⟨rfl, AfterP.front HB.out HA3.out⟩
  have e3 : ((kd : Int) == 3) = false := beq_eq_false_iff_ne.2 (by omega)
  rw [if_neg h3, if_neg h3]
  by_cases h4 : kd = 4
  · subst h4
    simp only [if_true]
    have HT2 := hid (HTW.out.ask i (f := sync) (f' := syncR) fun s r ht => ht.sync)
    have HB := hid (boxed w (.cells #[.int .u8 4, .int .i64 i, .string nm, .string dt, lv, .int .u8 fk, .int .i64 ft, .int .i64 fn, .int .i64 fa, .int .i64 fc] 40))
    have HBX := hid (Has.new w w.heap.size #[.int .u8 4, .int .i64 i, .string nm, .string dt, lv, .int .u8 fk, .int .i64 ft, .int .i64 fn, .int .i64 fa, .int .i64 fc] 40 rfl)
    have HD := hid (h.below HB.out)
    have b0 := HBX.out.cell 0
    have b1 := HBX.out.cell 1
    have b2 := HBX.out.cell 2
    have b4 := HBX.out.cell 4
    obtain ⟨wa, hwa⟩ : ∃ wa, wa = w.alloc (.cells #[.int .u8 4, .int .i64 i, .string nm, .string dt, lv, .int .u8 fk, .int .i64 ft, .int .i64 fn, .int .i64 fa, .int .i64 fc] 40) := ⟨_, rfl⟩
    rw [← hwa] at HB HBX HD b0 b1 b2 b4
    unfold ptr
    go_enter Tryz.func12, Tryz.ntmps12
    go_wp2_with fail
    rw [← hwa]
    clear hwa
    refine Tl.wp_mixL_lit (by kernel_rfl) 9 [105, 106, 107, 108, 109, 110, 111, 112, 113] 151 rfl (by kernel_rfl) (Tl.Two 3 7 (fun W => AfterP wa W S b c p s r) (fun W => AfterP wa W S b c p (askS s i sync).2 r) (fun W => AfterP wa W S b c p (askS s i sync).2 (askD r i syncR).2)) (doF4 b c w.heap.size i nm dt fk ft fn fa fc (askS s i sync).1 (askD r i syncR).1) (show Tl.Two _ _ _ _ _ _ _ from by unfold Tl.Two; rw [if_neg (by decide)]; exact (AfterP.refl HD.out).next (Below.refl _ _).drew)
      ⟨fun l a' W' hsz hl hcl hed hC hF => ?_, fun l a' W' hsz hl hcl hed hC hF => ?_, fun l a' W' hsz hl hcl hed hC hF => ?_, fun l a' W' hsz hl hcl hed hC hF => ?_, fun l a' W' hsz hl hcl hed hC hF => ?_, fun l a' W' hsz hl hcl hed hC hF => ?_, fun l a' W' hsz hl hcl hed hC hF => ?_, fun l a' W' hsz hl hcl hed hC hF => ?_, fun l a' W' hsz hl hcl hed hC hF => ?_, trivial⟩ ?_
    · exact Tl.sl_v 105 _ rfl (Tl.wanted_none rfl) (hC.other (by decide) (by decide)) rfl (rn_move rfl ((hF 1 (by decide +kernel)).2 (by decide)))
    · exact Tl.sl_v 106 _ rfl (Tl.wanted_none rfl) (hC.other (by decide) (by decide)) rfl (rn_f40_1 rfl ((hF 3 (by decide +kernel)).2 (by decide)))
    · exact Tl.sl_v 107 _ rfl (Tl.wanted_none rfl) (hC.other (by decide) (by decide)) rfl (rn_load3 rfl ((hF 106 (by decide +kernel)).1 (by decide)) ((hC.any (Y := fun W => Has W w.heap.size #[.int .u8 4, .int .i64 i, .string nm, .string dt, lv, .int .u8 fk, .int .i64 ft, .int .i64 fn, .int .i64 fa, .int .i64 fc] 40) (fun h => h.has HBX.out HNS.out) (fun h => h.has HBX.out HNS.out) (fun h => h.has HBX.out HNS.out)).cell 1))
    · obtain ⟨S1, k1, k2, k3⟩ := (hC.first hl).st
      refine Tl.sl_call 15 #[.pointer (some ⟨b, 0, none⟩), .int .i64 i] (Tl.wanted_none rfl) (rn_call2 rfl rfl ((hF 105 (by decide +kernel)).1 (by decide)) ((hF 107 (by decide +kernel)).1 (by decide)) (enw15 _)) ((wsync_any k1 HC.out HLS.out i).mono ?_)
      rintro e w'' ⟨rfl, ha⟩
      exact ⟨_, rfl, Tl.Two.did (by decide) hcl (by kernel_rfl) hl (by rw [hsz]; decide) (k3 _ _ ha), fun _ _ _ h => h, fun d hd => by cases hd; rfl⟩
    · exact Tl.sl_v 109 _ rfl (Tl.wanted_none rfl) (hC.other (by decide) (by decide)) rfl (rn_move rfl ((hF 2 (by decide +kernel)).2 (by decide)))
    · exact Tl.sl_v 110 _ rfl (Tl.wanted_none rfl) (hC.other (by decide) (by decide)) rfl (rn_f40_1 rfl ((hF 3 (by decide +kernel)).2 (by decide)))
    · exact Tl.sl_v 111 _ rfl (Tl.wanted_none rfl) (hC.other (by decide) (by decide)) rfl (rn_load3 rfl ((hF 110 (by decide +kernel)).1 (by decide)) ((hC.any (Y := fun W => Has W w.heap.size #[.int .u8 4, .int .i64 i, .string nm, .string dt, lv, .int .u8 fk, .int .i64 ft, .int .i64 fn, .int .i64 fa, .int .i64 fc] 40) (fun h => h.has HBX.out HNS.out) (fun h => h.has HBX.out HNS.out) (fun h => h.has HBX.out HNS.out)).cell 1))
    · obtain ⟨S1, k1, k2, k3⟩ := (hC.second (hed 3 (by kernel_rfl)) hl).rf
      refine Tl.sl_call 38 #[.pointer (some ⟨c, 0, none⟩), .int .i64 i] (Tl.wanted_none rfl) (rn_call2 rfl rfl ((hF 109 (by decide +kernel)).1 (by decide)) ((hF 111 (by decide +kernel)).1 (by decide)) (enw38 _)) ((dsync_any k1 HCR.out HLR.out HSM.out i).mono ?_)
      rintro e w'' ⟨rfl, ha⟩
      exact ⟨_, rfl, Tl.Two.both (by decide) (hed 3 (by kernel_rfl)) (by rw [hsz]; decide) (k3 _ _ ha), fun _ _ _ h => h, fun d hd => by cases hd; rfl⟩
    · exact Tl.sl_v 113 _ rfl (Tl.wanted_none rfl) (hC.other (by decide) (by decide)) rfl (rn_eql25 rfl ((hF 108 (by decide +kernel)).1 (by decide)) ((hF 112 (by decide +kernel)).1 (by decide)) rfl)
    intro k v W2 hk hC hv
    have hX2 := hC.last (hk 3 (by decide)) (hk 7 (by decide))
    have vv : v 113 = .bool (decide ((askS s i sync).1 = (askD r i syncR).1)) := hv 113 (by decide)
    rw [decide_eq_true HT2.out.1.symm] at vv
    have HX2 := hid (AfterP.front HB.out hX2)
    clear hk hC hv hX2
    simp only [Tl.fill, List.drop_succ_cons, List.drop_zero, wpList]
    rw [if_pos (Tl.wanted_none rfl)]
    simp only [Act.put, List.setIfInBounds_toArray, List.set_cons_succ, List.set_cons_zero, vv]
    clear vv
    refine .inl (wp_assign (x := .tmp 113) (d := 6) (v := .bool true) ?_ ?_ ?_ ?_)
    · rfl
    · rfl
    · rfl
    simp only [Act.put, List.setIfInBounds_toArray, List.set_cons_succ, List.set_cons_zero]
    go_wp2_with fail
    go_ret
    exact ⟨rfl, HX2.out⟩
  have e4 : ((kd : Int) == 4) = false := beq_eq_false_iff_ne.2 (by omega)
  rw [if_neg h4, if_neg h4]
  by_cases h5 : kd = 5
  · subst h5
    simp only [if_true]
    have HT2 := hid (HTW.out.cut i hi63)
    have HB := hid (boxed w (.cells #[.int .u8 5, .int .i64 i, .string nm, .string dt, lv, .int .u8 fk, .int .i64 ft, .int .i64 fn, .int .i64 fa, .int .i64 fc] 40))
    have HBX := hid (Has.new w w.heap.size #[.int .u8 5, .int .i64 i, .string nm, .string dt, lv, .int .u8 fk, .int .i64 ft, .int .i64 fn, .int .i64 fa, .int .i64 fc] 40 rfl)
    have HD := hid (h.below HB.out)
    have b0 := HBX.out.cell 0
    have b1 := HBX.out.cell 1
    have b2 := HBX.out.cell 2
    have b4 := HBX.out.cell 4
    obtain ⟨wa, hwa⟩ : ∃ wa, wa = w.alloc (.cells #[.int .u8 5, .int .i64 i, .string nm, .string dt, lv, .int .u8 fk, .int .i64 ft, .int .i64 fn, .int .i64 fa, .int .i64 fc] 40) := ⟨_, rfl⟩
    rw [← hwa] at HB HBX HD b0 b1 b2 b4
    unfold ptr
    go_enter Tryz.func12, Tryz.ntmps12
    go_wp2_with fail
    rw [← hwa]
    clear hwa
    refine Tl.wp_mixL_lit (by kernel_rfl) 9 [116, 117, 118, 119, 120, 121, 122, 123, 124] 151 rfl (by kernel_rfl) (Tl.Two 3 7 (fun W => AfterP wa W S b c p s r) (fun W => AfterP wa W S b c p (cutW s i).2 r) (fun W => AfterP wa W S b c p (cutW s i).2 (cutD r i).2)) (doF5 b c w.heap.size i nm dt fk ft fn fa fc (cutW s i).1 (cutD r i).1) (show Tl.Two _ _ _ _ _ _ _ from by unfold Tl.Two; rw [if_neg (by decide)]; exact (AfterP.refl HD.out).next (Below.refl _ _).drew)
      ⟨fun l a' W' hsz hl hcl hed hC hF => ?_, fun l a' W' hsz hl hcl hed hC hF => ?_, fun l a' W' hsz hl hcl hed hC hF => ?_, fun l a' W' hsz hl hcl hed hC hF => ?_, fun l a' W' hsz hl hcl hed hC hF => ?_, fun l a' W' hsz hl hcl hed hC hF => ?_, fun l a' W' hsz hl hcl hed hC hF => ?_, fun l a' W' hsz hl hcl hed hC hF => ?_, fun l a' W' hsz hl hcl hed hC hF => ?_, trivial⟩ ?_
    · exact Tl.sl_v 116 _ rfl (Tl.wanted_none rfl) (hC.other (by decide) (by decide)) rfl (rn_move rfl ((hF 1 (by decide +kernel)).2 (by decide)))
    · exact Tl.sl_v 117 _ rfl (Tl.wanted_none rfl) (hC.other (by decide) (by decide)) rfl (rn_f40_1 rfl ((hF 3 (by decide +kernel)).2 (by decide)))
    · exact Tl.sl_v 118 _ rfl (Tl.wanted_none rfl) (hC.other (by decide) (by decide)) rfl (rn_load3 rfl ((hF 117 (by decide +kernel)).1 (by decide)) ((hC.any (Y := fun W => Has W w.heap.size #[.int .u8 5, .int .i64 i, .string nm, .string dt, lv, .int .u8 fk, .int .i64 ft, .int .i64 fn, .int .i64 fa, .int .i64 fc] 40) (fun h => h.has HBX.out HNS.out) (fun h => h.has HBX.out HNS.out) (fun h => h.has HBX.out HNS.out)).cell 1))
    · obtain ⟨S1, k1, k2, k3⟩ := (hC.first hl).st
      refine Tl.sl_call 18 #[.pointer (some ⟨b, 0, none⟩), .int .i64 i] (Tl.wanted_none rfl) (rn_call2 rfl rfl ((hF 116 (by decide +kernel)).1 (by decide)) ((hF 118 (by decide +kernel)).1 (by decide)) (enw18 _)) ((cut_any k1 i).mono ?_)
      rintro e w'' ⟨rfl, ha⟩
      exact ⟨_, rfl, Tl.Two.did (by decide) hcl (by kernel_rfl) hl (by rw [hsz]; decide) (k3 _ _ ha), fun _ _ _ h => h, fun d hd => by cases hd; rfl⟩
    · exact Tl.sl_v 120 _ rfl (Tl.wanted_none rfl) (hC.other (by decide) (by decide)) rfl (rn_move rfl ((hF 2 (by decide +kernel)).2 (by decide)))
    · exact Tl.sl_v 121 _ rfl (Tl.wanted_none rfl) (hC.other (by decide) (by decide)) rfl (rn_f40_1 rfl ((hF 3 (by decide +kernel)).2 (by decide)))
    · exact Tl.sl_v 122 _ rfl (Tl.wanted_none rfl) (hC.other (by decide) (by decide)) rfl (rn_load3 rfl ((hF 121 (by decide +kernel)).1 (by decide)) ((hC.any (Y := fun W => Has W w.heap.size #[.int .u8 5, .int .i64 i, .string nm, .string dt, lv, .int .u8 fk, .int .i64 ft, .int .i64 fn, .int .i64 fa, .int .i64 fc] 40) (fun h => h.has HBX.out HNS.out) (fun h => h.has HBX.out HNS.out) (fun h => h.has HBX.out HNS.out)).cell 1))
    · obtain ⟨S1, k1, k2, k3⟩ := (hC.second (hed 3 (by kernel_rfl)) hl).rf
      refine Tl.sl_call 39 #[.pointer (some ⟨c, 0, none⟩), .int .i64 i] (Tl.wanted_none rfl) (rn_call2 rfl rfl ((hF 120 (by decide +kernel)).1 (by decide)) ((hF 122 (by decide +kernel)).1 (by decide)) (enw39 _)) ((dcut_any k1 i).mono ?_)
      rintro e w'' ⟨rfl, ha⟩
      exact ⟨_, rfl, Tl.Two.both (by decide) (hed 3 (by kernel_rfl)) (by rw [hsz]; decide) (k3 _ _ ha), fun _ _ _ h => h, fun d hd => by cases hd; rfl⟩
    · exact Tl.sl_v 124 _ rfl (Tl.wanted_none rfl) (hC.other (by decide) (by decide)) rfl (rn_eql25 rfl ((hF 119 (by decide +kernel)).1 (by decide)) ((hF 123 (by decide +kernel)).1 (by decide)) rfl)
    intro k v W2 hk hC hv
    have hX2 := hC.last (hk 3 (by decide)) (hk 7 (by decide))
    have vv : v 124 = .bool (decide ((cutW s i).1 = (cutD r i).1)) := hv 124 (by decide)
    rw [decide_eq_true HT2.out.1.symm] at vv
    have HX2 := hid (AfterP.front HB.out hX2)
    clear hk hC hv hX2
    simp only [Tl.fill, List.drop_succ_cons, List.drop_zero, wpList]
    rw [if_pos (Tl.wanted_none rfl)]
    simp only [Act.put, List.setIfInBounds_toArray, List.set_cons_succ, List.set_cons_zero, vv]
    clear vv
    refine .inl (wp_assign (x := .tmp 124) (d := 6) (v := .bool true) ?_ ?_ ?_ ?_)
    · rfl
    · rfl
    · rfl
    simp only [Act.put, List.setIfInBounds_toArray, List.set_cons_succ, List.set_cons_zero]
    go_wp2_with fail
    go_ret
    exact ⟨rfl, HX2.out⟩
  have e5 : ((kd : Int) == 5) = false := beq_eq_false_iff_ne.2 (by omega)
  rw [if_neg h5, if_neg h5]
  by_cases h6 : kd = 6
  · subst h6
    simp only [if_true]
    have HB := hid (boxed w (.cells #[.int .u8 6, .int .i64 i, .string nm, .string dt, lv, .int .u8 fk, .int .i64 ft, .int .i64 fn, .int .i64 fa, .int .i64 fc] 40))
    have HBX := hid (Has.new w w.heap.size #[.int .u8 6, .int .i64 i, .string nm, .string dt, lv, .int .u8 fk, .int .i64 ft, .int .i64 fn, .int .i64 fa, .int .i64 fc] 40 rfl)
    have HD := hid (h.below HB.out)
    have b0 := HBX.out.cell 0
    have b1 := HBX.out.cell 1
    have b2 := HBX.out.cell 2
    have b4 := HBX.out.cell 4
    obtain ⟨wa, hwa⟩ : ∃ wa, wa = w.alloc (.cells #[.int .u8 6, .int .i64 i, .string nm, .string dt, lv, .int .u8 fk, .int .i64 ft, .int .i64 fn, .int .i64 fa, .int .i64 fc] 40) := ⟨_, rfl⟩
    rw [← hwa] at HB HBX HD b0 b1 b2 b4
    unfold ptr
    go_enter Tryz.func12, Tryz.ntmps12
    go_wp2_with fail
    rw [← hwa]
    clear hwa
    obtain ⟨T1, t1, t2, t3⟩ := (AfterP.refl HD.out).rf
    have hba : Below w0.heap.size w0 wa := HB0.out.trans (HB.out.mono HB0.out.size)
    have hin : ∀ i, (S i ∨ wa.heap.size ≤ i) → w0.heap.size ≤ i := fun i hi => hi.elim (HS0.out i) fun h => Nat.le_trans hba.size h
    refine (dcrash_any t1 (by rw [← HTW.out.len]; exact HLEN.out) (fun x hx => (HSM.out x hx).1) hba (fun i hi => hin i (t2 i hi)) lv sv HLV.out HSL.out).mono ?_
    rintro x w1 ⟨rfl, ha1⟩
    have HA1 := hid (t3 _ _ ha1)
    obtain ⟨S1, k1, k2, k3⟩ := HA1.out.st
    have HCR := wcrash_any k1 HLEN.out HTW.out.fit2 (Nat.le_trans hN (by decide)) (HA1.out.low hba HS0.out) (fun i hi => hin i (k2 i hi)) lv sv HLV.out HSL.out
    have b4' := (HA1.out.has HBX.out HNS.out).cell 4
    have HK3 := hid k3
    unfold er ptr at HCR
    clear t1 t2 t3 ha1 k1 k2 k3 hba hin b0 b1 b2 b4
    go_wp2_with fail
    refine HCR.mono ?_
    clear HCR
    rintro x w2 ⟨rfl, ha2⟩
    have HA2 := hid (HK3.out _ _ ha2)
    clear ha2 HK3
    go_wp2_with fail
    go_ret
    exact ⟨rfl, AfterP.front HB.out HA2.out⟩
  have e6 : ((kd : Int) == 6) = false := beq_eq_false_iff_ne.2 (by omega)
  rw [if_neg h6, if_neg h6]
  by_cases h7 : kd = 7
  · subst h7
    simp only [if_true]
    have HT2 := hid (HTW.out.strike fk ft fn fa fc hf2)
    have HB := hid (boxed w (.cells #[.int .u8 7, .int .i64 i, .string nm, .string dt, lv, .int .u8 fk, .int .i64 ft, .int .i64 fn, .int .i64 fa, .int .i64 fc] 40))
    have HBX := hid (Has.new w w.heap.size #[.int .u8 7, .int .i64 i, .string nm, .string dt, lv, .int .u8 fk, .int .i64 ft, .int .i64 fn, .int .i64 fa, .int .i64 fc] 40 rfl)
    have HD := hid (h.below HB.out)
    have b0 := HBX.out.cell 0
    have b1 := HBX.out.cell 1
    have b2 := HBX.out.cell 2
    have b4 := HBX.out.cell 4
    obtain ⟨wa, hwa⟩ : ∃ wa, wa = w.alloc (.cells #[.int .u8 7, .int .i64 i, .string nm, .string dt, lv, .int .u8 fk, .int .i64 ft, .int .i64 fn, .int .i64 fa, .int .i64 fc] 40) := ⟨_, rfl⟩
    rw [← hwa] at HB HBX HD b0 b1 b2 b4
    unfold ptr
    go_enter Tryz.func12, Tryz.ntmps12
    go_wp2_with fail
    rw [← hwa]
    clear hwa
    refine Tl.wp_mixL_lit (by kernel_rfl) 9 [138, 139, 140, 141, 142, 143, 144, 145, 146] 151 rfl (by kernel_rfl) (Tl.Two 3 7 (fun W => AfterP wa W S b c p s r) (fun W => AfterP wa W S b c p (strikeW s fk ft fn fa fc).2 r) (fun W => AfterP wa W S b c p (strikeW s fk ft fn fa fc).2 (strikeD r fk ft fn fa fc).2)) (doF7 b c w.heap.size i nm dt fk ft fn fa fc (strikeW s fk ft fn fa fc).1 (strikeD r fk ft fn fa fc).1) (show Tl.Two _ _ _ _ _ _ _ from by unfold Tl.Two; rw [if_neg (by decide)]; exact (AfterP.refl HD.out).next (Below.refl _ _).drew)
      ⟨fun l a' W' hsz hl hcl hed hC hF => ?_, fun l a' W' hsz hl hcl hed hC hF => ?_, fun l a' W' hsz hl hcl hed hC hF => ?_, fun l a' W' hsz hl hcl hed hC hF => ?_, fun l a' W' hsz hl hcl hed hC hF => ?_, fun l a' W' hsz hl hcl hed hC hF => ?_, fun l a' W' hsz hl hcl hed hC hF => ?_, fun l a' W' hsz hl hcl hed hC hF => ?_, fun l a' W' hsz hl hcl hed hC hF => ?_, trivial⟩ ?_
    · exact Tl.sl_v 138 _ rfl (Tl.wanted_none rfl) (hC.other (by decide) (by decide)) rfl (rn_move rfl ((hF 1 (by decide +kernel)).2 (by decide)))
    · exact Tl.sl_v 139 _ rfl (Tl.wanted_none rfl) (hC.other (by decide) (by decide)) rfl (rn_f40_4 rfl ((hF 3 (by decide +kernel)).2 (by decide)))
    · exact Tl.sl_v 140 _ rfl (Tl.wanted_none rfl) (hC.other (by decide) (by decide)) rfl (rn_load32 rfl ((hF 139 (by decide +kernel)).1 (by decide)) ((hC.any (Y := fun W => Has W w.heap.size #[.int .u8 7, .int .i64 i, .string nm, .string dt, lv, .int .u8 fk, .int .i64 ft, .int .i64 fn, .int .i64 fa, .int .i64 fc] 40) (fun h => h.has HBX.out HNS.out) (fun h => h.has HBX.out HNS.out) (fun h => h.has HBX.out HNS.out)).cell 5) ((hC.any (Y := fun W => Has W w.heap.size #[.int .u8 7, .int .i64 i, .string nm, .string dt, lv, .int .u8 fk, .int .i64 ft, .int .i64 fn, .int .i64 fa, .int .i64 fc] 40) (fun h => h.has HBX.out HNS.out) (fun h => h.has HBX.out HNS.out) (fun h => h.has HBX.out HNS.out)).cell 6) ((hC.any (Y := fun W => Has W w.heap.size #[.int .u8 7, .int .i64 i, .string nm, .string dt, lv, .int .u8 fk, .int .i64 ft, .int .i64 fn, .int .i64 fa, .int .i64 fc] 40) (fun h => h.has HBX.out HNS.out) (fun h => h.has HBX.out HNS.out) (fun h => h.has HBX.out HNS.out)).cell 7) ((hC.any (Y := fun W => Has W w.heap.size #[.int .u8 7, .int .i64 i, .string nm, .string dt, lv, .int .u8 fk, .int .i64 ft, .int .i64 fn, .int .i64 fa, .int .i64 fc] 40) (fun h => h.has HBX.out HNS.out) (fun h => h.has HBX.out HNS.out) (fun h => h.has HBX.out HNS.out)).cell 8) ((hC.any (Y := fun W => Has W w.heap.size #[.int .u8 7, .int .i64 i, .string nm, .string dt, lv, .int .u8 fk, .int .i64 ft, .int .i64 fn, .int .i64 fa, .int .i64 fc] 40) (fun h => h.has HBX.out HNS.out) (fun h => h.has HBX.out HNS.out) (fun h => h.has HBX.out HNS.out)).cell 9))
    · obtain ⟨S1, k1, k2, k3⟩ := (hC.first hl).st
      refine Tl.sl_call 41 #[.pointer (some ⟨b, 0, none⟩), .agg #[.int .u8 fk, .int .i64 ft, .int .i64 fn, .int .i64 fa, .int .i64 fc]] (Tl.wanted_none rfl) (rn_call2 rfl rfl ((hF 138 (by decide +kernel)).1 (by decide)) ((hF 140 (by decide +kernel)).1 (by decide)) (enw41 _)) ((wstrike_any k1 HF.out HN.out fk ft fn fa fc hf0 hf1 hf2 hf3).mono ?_)
      rintro e w'' ⟨rfl, ha⟩
      exact ⟨_, rfl, Tl.Two.did (by decide) hcl (by kernel_rfl) hl (by rw [hsz]; decide) (k3 _ _ ha), fun _ _ _ h => h, fun d hd => by cases hd; rfl⟩
    · exact Tl.sl_v 142 _ rfl (Tl.wanted_none rfl) (hC.other (by decide) (by decide)) rfl (rn_move rfl ((hF 2 (by decide +kernel)).2 (by decide)))
    · exact Tl.sl_v 143 _ rfl (Tl.wanted_none rfl) (hC.other (by decide) (by decide)) rfl (rn_f40_4 rfl ((hF 3 (by decide +kernel)).2 (by decide)))
    · exact Tl.sl_v 144 _ rfl (Tl.wanted_none rfl) (hC.other (by decide) (by decide)) rfl (rn_load32 rfl ((hF 143 (by decide +kernel)).1 (by decide)) ((hC.any (Y := fun W => Has W w.heap.size #[.int .u8 7, .int .i64 i, .string nm, .string dt, lv, .int .u8 fk, .int .i64 ft, .int .i64 fn, .int .i64 fa, .int .i64 fc] 40) (fun h => h.has HBX.out HNS.out) (fun h => h.has HBX.out HNS.out) (fun h => h.has HBX.out HNS.out)).cell 5) ((hC.any (Y := fun W => Has W w.heap.size #[.int .u8 7, .int .i64 i, .string nm, .string dt, lv, .int .u8 fk, .int .i64 ft, .int .i64 fn, .int .i64 fa, .int .i64 fc] 40) (fun h => h.has HBX.out HNS.out) (fun h => h.has HBX.out HNS.out) (fun h => h.has HBX.out HNS.out)).cell 6) ((hC.any (Y := fun W => Has W w.heap.size #[.int .u8 7, .int .i64 i, .string nm, .string dt, lv, .int .u8 fk, .int .i64 ft, .int .i64 fn, .int .i64 fa, .int .i64 fc] 40) (fun h => h.has HBX.out HNS.out) (fun h => h.has HBX.out HNS.out) (fun h => h.has HBX.out HNS.out)).cell 7) ((hC.any (Y := fun W => Has W w.heap.size #[.int .u8 7, .int .i64 i, .string nm, .string dt, lv, .int .u8 fk, .int .i64 ft, .int .i64 fn, .int .i64 fa, .int .i64 fc] 40) (fun h => h.has HBX.out HNS.out) (fun h => h.has HBX.out HNS.out) (fun h => h.has HBX.out HNS.out)).cell 8) ((hC.any (Y := fun W => Has W w.heap.size #[.int .u8 7, .int .i64 i, .string nm, .string dt, lv, .int .u8 fk, .int .i64 ft, .int .i64 fn, .int .i64 fa, .int .i64 fc] 40) (fun h => h.has HBX.out HNS.out) (fun h => h.has HBX.out HNS.out) (fun h => h.has HBX.out HNS.out)).cell 9))
    · obtain ⟨S1, k1, k2, k3⟩ := (hC.second (hed 3 (by kernel_rfl)) hl).rf
      refine Tl.sl_call 42 #[.pointer (some ⟨c, 0, none⟩), .agg #[.int .u8 fk, .int .i64 ft, .int .i64 fn, .int .i64 fa, .int .i64 fc]] (Tl.wanted_none rfl) (rn_call2 rfl rfl ((hF 142 (by decide +kernel)).1 (by decide)) ((hF 144 (by decide +kernel)).1 (by decide)) (enw42 _)) ((dstrike_any k1 HSM.out fk ft fn fa fc hf2 hf3).mono ?_)
      rintro e w'' ⟨rfl, ha⟩
      exact ⟨_, rfl, Tl.Two.both (by decide) (hed 3 (by kernel_rfl)) (by rw [hsz]; decide) (k3 _ _ ha), fun _ _ _ h => h, fun d hd => by cases hd; rfl⟩
    · exact Tl.sl_v 146 _ rfl (Tl.wanted_none rfl) (hC.other (by decide) (by decide)) rfl (rn_eql25 rfl ((hF 141 (by decide +kernel)).1 (by decide)) ((hF 145 (by decide +kernel)).1 (by decide)) rfl)
    intro k v W2 hk hC hv
    have hX2 := hC.last (hk 3 (by decide)) (hk 7 (by decide))
    have vv : v 146 = .bool (decide ((strikeW s fk ft fn fa fc).1 = (strikeD r fk ft fn fa fc).1)) := hv 146 (by decide)
    rw [decide_eq_true HT2.out.1.symm] at vv
    have HX2 := hid (AfterP.front HB.out hX2)
    clear hk hC hv hX2
    simp only [Tl.fill, List.drop_succ_cons, List.drop_zero, wpList]
    rw [if_pos (Tl.wanted_none rfl)]
    simp only [Act.put, List.setIfInBounds_toArray, List.set_cons_succ, List.set_cons_zero, vv]
    clear vv
    refine .inl (wp_assign (x := .tmp 146) (d := 6) (v := .bool true) ?_ ?_ ?_ ?_)
    · rfl
    · rfl
    · rfl
    simp only [Act.put, List.setIfInBounds_toArray, List.set_cons_succ, List.set_cons_zero]
    go_wp2_with fail
    go_ret
    exact ⟨rfl, HX2.out⟩
  have e7 : ((kd : Int) == 7) = false := beq_eq_false_iff_ne.2 (by omega)
  rw [if_neg h7, if_neg h7]
  have HB := hid (boxed w (.cells #[.int .u8 (kd : Int), .int .i64 i, .string nm, .string dt, lv, .int .u8 fk, .int .i64 ft, .int .i64 fn, .int .i64 fa, .int .i64 fc] 40))
  have HBX := hid (Has.new w w.heap.size #[.int .u8 (kd : Int), .int .i64 i, .string nm, .string dt, lv, .int .u8 fk, .int .i64 ft, .int .i64 fn, .int .i64 fa, .int .i64 fc] 40 rfl)
  have HD := hid (h.below HB.out)
  have b0 := HBX.out.cell 0
  have b1 := HBX.out.cell 1
  have b2 := HBX.out.cell 2
  have b4 := HBX.out.cell 4
  obtain ⟨wa, hwa⟩ : ∃ wa, wa = w.alloc (.cells #[.int .u8 (kd : Int), .int .i64 i, .string nm, .string dt, lv, .int .u8 fk, .int .i64 ft, .int .i64 fn, .int .i64 fa, .int .i64 fc] 40) := ⟨_, rfl⟩
  rw [← hwa] at HB HBX HD b0 b1 b2 b4
  unfold ptr
  go_enter Tryz.func12, Tryz.ntmps12
  go_wp2_with fail
  rw [← hwa]
  clear hwa
  obtain ⟨S1, k1, _, k3⟩ := (AfterP.refl HD.out).st
  refine (wclear_any k1 HLEN.out).mono ?_
  rintro x w1 ⟨rfl, ha1⟩
  have HA1 := hid (k3 _ _ ha1)
  obtain ⟨T1, t1, t2, t3⟩ := HA1.out.rf
  have HRC := dclear_any t1 (by rw [← HTW.out.len]; exact HLEN.out)
  have HT3 := hid t3
  unfold ptr at HRC
  clear k1 k3 ha1 t1 t2 t3 b0 b1 b2 b4
  go_wp2_with fail
  refine HRC.mono ?_
  clear HRC
  rintro x w2 ⟨rfl, ha2⟩
  have HA2 := hid (HT3.out _ _ ha2)
  clear ha2 HT3
  go_wp2_with fail
  go_ret
  exact ⟨rfl, AfterP.front HB.out HA2.out⟩
end Go.Proofs.YtgdiaflikfdnaaaGreat
