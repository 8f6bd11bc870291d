/- The contracts of size and overflows. -/
import Derived.Test.YtmpgfpmkmgebdaaGreatDoorWApp
namespace Go.Proofs.YtmpgfpmkmgebdaaGreatDoor.W
open Go.RowKit Go.Maps
def wt (p : Ob) : Nat := if isMan p.1 then 0 else p.2.size
/-- how many bytes what is seen has, but for the manifests -/
def used (M : List Ob) : Nat := (M.map wt).sum
def usedL (M : List Ob) (left : Lit → Bool) : Nat := (M.map fun p => if left (.string p.1.data.toList) then 0 else wt p).sum
theorem has_DM (M : List Ob) (n : ByteArray) : has (DM M) (.string n.data.toList) = (look n M).isSome := by
  show (M.map ent).any _ = _
  rw [List.any_map]
  unfold look
  rw [Option.isSome_map, Bool.eq_iff_iff, List.any_eq_true, List.find?_isSome]
  constructor
  · rintro ⟨p, hp, h⟩
    exact ⟨p, hp, by rw [← same_str]; exact h⟩
  · rintro ⟨p, hp, h⟩
    exact ⟨p, hp, (same_str p.1 n).trans h⟩
theorem usedL_start {M : List Ob} (h : Rising M) : usedL M (has (DM M)) = 0 := by
  have e : ∀ l : List Ob, (∀ p ∈ l, has (DM M) (.string p.1.data.toList) = true) → (l.map fun p => if has (DM M) (.string p.1.data.toList) then 0 else wt p).sum = 0 := fun l hl => by
    induction l with
    | nil => rfl
    | cons p r ih => rw [List.map_cons, List.sum_cons, if_pos (hl p List.mem_cons_self), ih fun q hq => hl q (List.mem_cons_of_mem _ hq)]
  exact e M fun p hp => by rw [has_DM, (look_some h).2 (show (p.1, p.2) ∈ M from hp)]; rfl
theorem usedL_end {M : List Ob} {left : Lit → Bool} (h : ∀ kl, left kl = false) : usedL M left = used M := by
  unfold usedL used
  congr 1
  refine List.map_congr_left fun p _ => ?_
  rw [h]; rfl
theorem sum_none {n : ByteArray} : ∀ {M : List Ob}, (∀ p ∈ M, p.1 ≠ n) → (M.map fun p => if p.1 = n then wt p else 0).sum = 0
  | [], _ => rfl
  | p :: r, h => by
    rw [List.map_cons, List.sum_cons, if_neg (h p List.mem_cons_self), sum_none fun q hq => h q (List.mem_cons_of_mem _ hq)]
theorem sum_at {n d : ByteArray} : ∀ {M : List Ob}, Rising M → (n, d) ∈ M → (M.map fun p => if p.1 = n then wt p else 0).sum = wt (n, d)
  | [], _, h => by cases h
  | p :: r, hR, h => by
    obtain ⟨h1, h2⟩ := List.pairwise_cons.1 hR
    rw [List.map_cons, List.sum_cons]
    rcases List.mem_cons.1 h with e | h
    · subst e
      rw [if_pos rfl, sum_none fun q hq e => lt_ne (h1 q hq) e.symm]; omega
    · rw [if_neg (lt_ne (h1 _ h)), sum_at h2 h]; omega
theorem sum_add (f g k : Ob → Nat) : ∀ (M : List Ob), (∀ p ∈ M, f p = g p + k p) → (M.map f).sum = (M.map g).sum + (M.map k).sum
  | [], _ => rfl
  | p :: r, h => by
    rw [List.map_cons, List.sum_cons, List.map_cons, List.sum_cons, List.map_cons, List.sum_cons, h p List.mem_cons_self, sum_add f g k r fun q hq => h q (List.mem_cons_of_mem _ hq)]; omega
theorem usedL_step {M : List Ob} (h : Rising M) {n d : ByteArray} (hl : look n M = some d) {left : Lit → Bool} (hk : left (.string n.data.toList) = true) :
    usedL M (fun z => left z && !z.sameKey (.string n.data.toList)) = usedL M left + wt (n, d) := by
  unfold usedL
  rw [← sum_at h ((look_some h).1 hl)]
  refine sum_add _ _ _ M fun p _ => ?_
  simp only [same_str]
  by_cases e : p.1 = n
  · subst e; simp [hk]
  · simp [e]
theorem sum_le (f g : Ob → Nat) : ∀ (M : List Ob), (∀ p ∈ M, f p ≤ g p) → (M.map f).sum ≤ (M.map g).sum
  | [], _ => Nat.le_refl _
  | p :: r, h => by
    rw [List.map_cons, List.sum_cons, List.map_cons, List.sum_cons]
    have := h p List.mem_cons_self
    have := sum_le f g r fun q hq => h q (List.mem_cons_of_mem _ hq)
    omega
theorem usedL_le (M : List Ob) (left : Lit → Bool) : usedL M left ≤ used M := sum_le _ _ M fun p _ => by split <;> omega
theorem used_le : ∀ {M : List Ob}, (∀ p ∈ M, p.2.size ≤ 65536) → used M ≤ M.length * 65536
  | [], _ => Nat.le_refl _
  | p :: r, h => by
    have h1 := h p List.mem_cons_self
    have := used_le fun q hq => h q (List.mem_cons_of_mem _ hq)
    have h2 : wt p ≤ 65536 := by unfold wt; split <;> omega
    unfold used at this ⊢
    rw [List.map_cons, List.sum_cons, List.length_cons]; omega
theorem keyOf9_inv {key : Value} {kl : Lit} (h : keyOf Tryz.prog 9 key = some kl) : ∃ x : ByteArray, key = .string x ∧ kl = .string x.data.toList := by
  have h9 := Tryz.underlying9
  cases key <;> simp [keyOf, h9, mapKey] at h
  obtain ⟨_, rfl⟩ := h
  exact ⟨_, rfl, rfl⟩
set_option maxHeartbeats 1000000 in
set_option maxRecDepth 20000 in
theorem size_any {w : World} {S : Nat → Prop} {b : Nat} {s : St} (h : IsSt w S b s) (hs : s.seen.length ≤ 1000000) (hd : ∀ p ∈ s.seen, p.2.size ≤ 65536) : Calls Tryz.prog 132 #[ptr b] w fun e w' => e = .returned (.int .i64 (used s.seen : Int)) ∧ Below w.heap.size w w' := by
  have HU : Hid (used s.seen ≤ 65536000000) := hid (by have := used_le hd; omega)
  obtain ⟨mo, wv, ⟨c0, c1, c2, c3, c4, c5, c6⟩, hM, _, _⟩ := h.cells
  clear h hd hs
  unfold ptr
  cases mo with
  | none =>
    have hM' : s.seen = [] := hM
    have HM := hid hM'
    have hrg := run_range_nilMap (P := Tryz.prog) w 98 9 120 Tryz.underlying98
    have hnx : ∀ ty, (Instr.next (.pointer (some ⟨w.heap.size, 0, none⟩)) false ty).run Tryz.prog (w.alloc (.mapIter none 0 #[] 0)) = _ := fun ty => run_next_nilMap _ ty 0 0 #[]
    clear hM hM'
    go_enter Tryz.func132, Tryz.ntmps132
    go_wp2_with fail
    refine wp_loop_rounds 1 ?_
    rw [rounds_succ]
    go_wp2_with fail
    go_ret
    exact ⟨by rw [HM.out]; rfl, boxed _ _⟩
  | some m =>
    have hown := hM.1
    have HR := hid hM.2.1
    clear hM
    go_enter Tryz.func132, Tryz.ntmps132
    go_wp2_with (at_range; refine wpList_range_own _ rfl _ 98 rfl 9 120 key9 Tryz.underlying98 contR m _ (DM s.seen) rfl hown ?_; intro w0 hrg0 hg0 hs0)
    go_frame
    go_loopw [3] (fun s3 wx => ∃ (left : Lit → Bool) (cnt : Nat), wx.ranges Tryz.prog 9 contR m w.heap.size s.seen.length (DM s.seen) left cnt ∧ s3 = .int .i64 (usedL s.seen left : Int) ∧ w.grownBy wx none) (fun _ wx => wx.rangeLeft m w.heap.size)
    case atStart => exact ⟨_, _, hrg0, by rw [usedL_start HR.out]; rfl, hg0⟩
    case round =>
      obtain ⟨left, cnt, hrg, rfl, hgw⟩ := hrel
      go_wp2_with (at_next; refine wpList_next_ranges _ rfl _ rfl 9 key9 contR Value.string (fun d => .agg #[.bool true, .string d]) (fun key kl hk => by obtain ⟨x, rfl, _⟩ := keyOf9_inv hk; exact ⟨x, rfl⟩) (fun v y hv => by obtain ⟨d, rfl, _⟩ := contR_inv hv; exact ⟨d, rfl⟩) m w.heap.size s.seen.length _ _ _ rfl hrg ?_ ?_)
      · intro _ hl0
        have HE := hid (usedL_end (M := s.seen) hl0)
        clear hl0
        go_wp2_with fail
        go_ret
        exact ⟨by rw [← HE.out]; rfl, (Below.refl _ _).grown hgw (Nat.le_refl _) (fun j hj => by cases hj)⟩
      · intro n d kl yd yp w1 cnt1 hkey hlx hv hat hrg1 hlt hg1 hs1 hen
        obtain ⟨n', e1, rfl⟩ := keyOf9_inv hkey
        cases e1
        obtain ⟨d', e2, e4⟩ := contR_inv hv
        simp only [Prod.mk.injEq] at e4
        obtain ⟨rfl, rfl⟩ := e4
        have e3 : d = d' := by simpa [cv] using e2
        subst e3
        have h0 := hat .nil
        rw [atKey_DM] at h0
        have hlk : look n s.seen = some d := by
          cases hl : look n s.seen with
          | none => rw [hl] at h0; cases h0
          | some d0 =>
            rw [hl] at h0
            rw [lit_inj h0]
        have HS := hid (usedL_step HR.out hlk hlx)
        have hle := usedL_le s.seen (fun z => left z && !z.sameKey (.string n.data.toList))
        have HW := hid (show w1.ranges Tryz.prog 9 contR m w.heap.size s.seen.length (DM s.seen) (fun z => left z && !z.sameKey (.string n.data.toList)) cnt1 from hrg1)
        have HG := hid hg1
        have HT := hid hlt
        have hU := HU.out
        have hGW := hid hgw
        have hRG := hid hrg
        clear hkey hv hat h0 hlk hlx hrg1 hg1 hlt hgw hrg e2 c1 c2 c3 c4 c5 c6 hs1
        have q1 : usedL s.seen left + wt (n, d) ≤ 65536000000 := by rw [← HS.out]; omega
        have q2 : Hid (wt (n, d) = if isMan n then 0 else d.size) := hid rfl
        have hfin : Hid (w.grownBy (w1.alloc (.cells #[.bool true, .string d] 120)) none) := hid ((hGW.out.andThen HG.out (fun j hj => by cases hj; exact Or.inl (Nat.le_refl _))).andThen (World.grownBy_alloc w1 (.cells #[.bool true, .string d] 120) none) (fun j hj => by cases hj))
        have hrf := hid (HW.out.alloc (.cells #[.bool true, .string d] 120))
        clear hle hU
        generalize hA : usedL s.seen left = A at *
        cases hm : isMan n with
        | true =>
          have hc := isMan_any n (w1.alloc (.cells #[.bool true, .string d] 120))
          rw [hm] at hc
          have HM := hid hm
          clear hm
          go_wp2_with (go_at_call 131; refine hc.mono ?_; rintro e w2 ⟨rfl, rfl⟩)
          refine ⟨⟨_, cnt1, hrf.out, ?_, hfin.out⟩, by rw [hrf.out.left_eq, hRG.out.left_eq]; exact HT.out⟩
          rw [HS.out, q2.out, HM.out]; rfl
        | false =>
          have hc := isMan_any n (w1.alloc (.cells #[.bool true, .string d] 120))
          rw [hm] at hc
          have q3 : A + d.size ≤ 65536000000 := by rw [q2.out, hm] at q1; exact q1
          have HM := hid hm
          clear hm q1
          go_wp2_with (go_at_call 131; refine hc.mono ?_; rintro e w2 ⟨rfl, rfl⟩)
          refine ⟨⟨_, cnt1, hrf.out, ?_, hfin.out⟩, by rw [hrf.out.left_eq, hRG.out.left_eq]; exact HT.out⟩
          rw [HS.out, q2.out, HM.out]
          simp only [Bool.false_eq_true, if_false, Value.int.injEq, true_and]
          omega
variable {ev : Operand → Value} {o : Oper} {w : World} {x y : Operand}
theorem rn_lookup58 {mo : Option Nat} {n : ByteArray} {v : Value} (ho : o.op = .lookup 98 x y false) (hx : ev x = .map mo) (hy : ev y = .string n) (hr : (Instr.lookup 98 (.map mo) (.string n) false).run Tryz.prog w = .ok v w) : (execOp ev o).run Tryz.prog w = .ok (.value v) w := by
  simp [execOp, ho, hx, hy, hr, Result.andThen]
theorem rn_fld67_1 {c : Option ByteArray} (ho : o.op = .field 120 x 1) (hx : ev x = cv c) : (execOp ev o).run Tryz.prog w = .ok (.value (.string (c.getD ⟨#[]⟩))) w := by
  have := fld67 w c.isSome (c.getD ⟨#[]⟩)
  unfold cv at hx
  simp [execOp, ho, hx, this, Result.andThen]
theorem rn_len9 {A : ByteArray} (ho : o.op = .call { callee := .builtin .len, args := #[x], argTypes := #[9] }) (hx : ev x = .string A) : (execOp ev o).run Tryz.prog w = .ok (.value (.int .i64 (A.size : Int))) w := by
  simp [execOp, ho, hx, go_sem]
theorem rn_sub3 {u v z : Int} (ho : o.op = .binOp .sub 3 x y 3) (hx : ev x = .int .i64 u) (hy : ev y = .int .i64 v) (hz : IntKind.i64.wrap (u - v) = z) : (execOp ev o).run Tryz.prog w = .ok (.value (.int .i64 z)) w := by
  subst hz
  simp [execOp, ho, hx, hy, go_sem]
theorem rn_add3 {u v z : Int} (ho : o.op = .binOp .add 3 x y 3) (hx : ev x = .int .i64 u) (hy : ev y = .int .i64 v) (hz : IntKind.i64.wrap (u + v) = z) : (execOp ev o).run Tryz.prog w = .ok (.value (.int .i64 z)) w := by
  subst hz
  simp [execOp, ho, hx, hy, go_sem]
theorem rn_gtr3 {u v : Int} (ho : o.op = .binOp .gtr 3 x y 3) (hx : ev x = .int .i64 u) (hy : ev y = .int .i64 v) : (execOp ev o).run Tryz.prog w = .ok (.value (.bool (decide (v < u)))) w := by
  simp [execOp, ho, hx, hy, go_sem]
theorem rn_call1 {f : FuncId} {t : TypeId} {u : Value} (ho : o.op = .call { callee := .value (.func f), args := #[x], argTypes := #[t] }) (hf : ev (.func f) = .func (.func f) #[] #[]) (hx : ev x = u) (hb : (callFunc f #[u]).run Tryz.prog w = .ok (.enter f #[u]) w) : (execOp ev o).run Tryz.prog w = .ok (.enter f #[u]) w := by
  simp [execOp, ho, hx, hf, go_sem, hb]
theorem rn_call2 {f : FuncId} {t t' : TypeId} {u v : Value} (ho : o.op = .call { callee := .value (.func f), args := #[x, y], argTypes := #[t, t'] }) (hf : ev (.func f) = .func (.func f) #[] #[]) (hx : ev x = u) (hy : ev y = v) (hb : (callFunc f #[u, v]).run Tryz.prog w = .ok (.enter f #[u, v]) w) : (execOp ev o).run Tryz.prog w = .ok (.enter f #[u, v]) w := by
  simp [execOp, ho, hx, hy, hf, go_sem, hb]
theorem rn_call3 {z : Operand} {f : FuncId} {t t' t'' : TypeId} {u v r : Value} (ho : o.op = .call { callee := .value (.func f), args := #[x, y, z], argTypes := #[t, t', t''] }) (hf : ev (.func f) = .func (.func f) #[] #[]) (hx : ev x = u) (hy : ev y = v) (hz : ev z = r) (hb : (callFunc f #[u, v, r]).run Tryz.prog w = .ok (.enter f #[u, v, r]) w) : (execOp ev o).run Tryz.prog w = .ok (.enter f #[u, v, r]) w := by
  simp [execOp, ho, hx, hy, hz, hf, go_sem, hb]
theorem enter60 (args : Array Value) : (callFunc 132 args).run Tryz.prog w = .ok (.enter 132 args) w := by kernel_rfl
/-- nothing of W0 has turned -/
def BelW (W0 W : World) : Prop := Below W0.heap.size W0 W
theorem BelW.cell {W0 W : World} (h : BelW W0 W) {p : Addr} (hp : p.block < W0.heap.size) {v : Value} (hv : W0.cell? p = some v) : W.cell? p = some v := by rw [Below.cell h hp]; exact hv
/-- an object, if it were put, would be more than the room -/
def over (s : St) (n d : ByteArray) : Bool := match s.room with
  | none => false
  | some r => !isMan n && decide ((r : Int) < (used s.seen : Int) - (((look n s.seen).getD ⟨#[]⟩).size : Int) + (d.size : Int))
def overF (b B : Nat) (mo : Option Nat) (n d : ByteArray) (M : List Ob) (r : Nat) (i : Nat) (v : Value) (_ : World) : Prop := match i with
  | 16 => v = ptr b | 18 => v = ptr b | 19 => v = ptr b | 20 => v = ptr b | 32 => v = ptr b | 33 => v = ptr b
  | 17 => v = .int .i64 (used M : Int)
  | 21 => v = .map mo
  | 22 => v = ptr B
  | 23 => v = .string n
  | 24 => v = cv (look n M)
  | 25 => v = .string ((look n M).getD ⟨#[]⟩)
  | 26 => v = .int .i64 (((look n M).getD ⟨#[]⟩).size : Int)
  | 27 => v = .int .i64 (IntKind.i64.wrap ((used M : Int) - (((look n M).getD ⟨#[]⟩).size : Int)))
  | 28 => v = .pointer (some ⟨B, 1, none⟩)
  | 29 => v = .string d
  | 30 => v = .int .i64 (d.size : Int)
  | 31 => v = .int .i64 (IntKind.i64.wrap (IntKind.i64.wrap ((used M : Int) - (((look n M).getD ⟨#[]⟩).size : Int)) + (d.size : Int)))
  | 34 => v = .pointer (some ⟨b, 5, none⟩)
  | 35 => v = .pointer (some ⟨b, 6, none⟩)
  | 36 => v = .int .i64 (r : Int)
  | 37 => v = .bool (decide ((r : Int) < IntKind.i64.wrap (IntKind.i64.wrap ((used M : Int) - (((look n M).getD ⟨#[]⟩).size : Int)) + (d.size : Int))))
  | 4 => v = .bool (decide ((r : Int) < IntKind.i64.wrap (IntKind.i64.wrap ((used M : Int) - (((look n M).getD ⟨#[]⟩).size : Int)) + (d.size : Int))))
  | _ => True
theorem look_le {M : List Ob} {k : Nat} (h : ∀ p ∈ M, p.2.size ≤ k) (n : ByteArray) : ((look n M).getD ⟨#[]⟩).size ≤ k := by
  unfold look
  cases hf : M.find? fun p => decide (p.1 = n) with
  | none => exact Nat.zero_le _
  | some p => exact h p (List.mem_of_find?_eq_some hf)
theorem wrap_i64_of {n : Int} (h1 : -9223372036854775808 ≤ n) (h2 : n ≤ 9223372036854775807) : IntKind.i64.wrap n = n := by
  simp [IntKind.wrap, IntKind.bits, IntKind.signed]; omega
set_option maxHeartbeats 1000000 in
set_option maxRecDepth 20000 in
theorem over_any {w : World} {S : Nat → Prop} {b : Nat} {s : St} (h : IsSt w S b s) (hs : s.seen.length ≤ 1000000) (hd : ∀ p ∈ s.seen, p.2.size ≤ 65536) (n d : ByteArray) (hn : n.size ≤ maxLen) (hdd : d.size ≤ 65536) : Calls Tryz.prog 116 #[ptr b, .agg #[.string n, .string d]] w fun e w' => e = .returned (.bool (over s n d)) ∧ Below w.heap.size w w' := by
  have h' := h.below (boxed w (.cells #[.string n, .string d] 131))
  have hbox : Has (w.alloc (.cells #[.string n, .string d] 131)) w.heap.size #[.string n, .string d] 131 := Has.new _ _ _ _ rfl
  have x0 : (w.alloc (.cells #[.string n, .string d] 131)).cell? ⟨w.heap.size, 0, none⟩ = some (.string n) := hbox.cell 0
  have x1 : (w.alloc (.cells #[.string n, .string d] 131)).cell? ⟨w.heap.size, 1, none⟩ = some (.string d) := hbox.cell 1
  have hxl : w.heap.size < (w.alloc (.cells #[.string n, .string d] 131)).drew.heap.size := hbox.lt
  have hbl : b < (w.alloc (.cells #[.string n, .string d] 131)).drew.heap.size := h'.lt
  obtain ⟨mo, wv, ⟨c0, c1, c2, c3, c4, c5, c6⟩, hM, _, _⟩ := h'.cells
  clear h hbox c1 c2 c3 c4
  have hc := isMan_any n (w.alloc (.cells #[.string n, .string d] 131))
  have HF := hid (boxed w (.cells #[.string n, .string d] 131))
  have HU := used_le hd
  have HL := look_le hd n
  unfold over
  cases hr : s.room with
  | none =>
    rw [hr] at c5
    simp only [Option.isSome_none] at c5
    clear hM h' HU HL hd hs c6 hc hr
    unfold ptr
    go_enter Tryz.func116, Tryz.ntmps116
    go_wp2_with fail
    go_ret
    exact ⟨rfl, HF.out⟩
  | some r =>
    rw [hr] at c5 c6
    simp only [Option.isSome_some, Option.getD_some] at c5 c6
    cases hm : isMan n with
    | true =>
      rw [hm] at hc
      clear hM h' HU HL hd hs c6 hm hr
      unfold ptr
      go_enter Tryz.func116, Tryz.ntmps116
      go_wp2_with (go_at_call 131; refine hc.mono ?_; rintro e w2 ⟨rfl, rfl⟩)
      go_ret
      exact ⟨rfl, HF.out⟩
    | false =>
      rw [hm] at hc
      have q1 : IntKind.i64.wrap ((used s.seen : Int) - (((look n s.seen).getD ⟨#[]⟩).size : Int)) = (used s.seen : Int) - (((look n s.seen).getD ⟨#[]⟩).size : Int) := wrap_i64_of (by omega) (by omega)
      have q2 : IntKind.i64.wrap ((used s.seen : Int) - (((look n s.seen).getD ⟨#[]⟩).size : Int) + (d.size : Int)) = (used s.seen : Int) - (((look n s.seen).getD ⟨#[]⟩).size : Int) + (d.size : Int) := wrap_i64_of (by omega) (by omega)
      have Q1 := hid q1
      have Q2 := hid q2
      have HM := hid hM
      have HD := hid hd
      have HS := hid hs
      clear q1 q2 hm hr hM HU HL hd hs
      unfold ptr
      go_enter Tryz.func116, Tryz.ntmps116
      go_wp2_with (go_at_call 131; refine hc.mono ?_; rintro e w2 ⟨rfl, rfl⟩)
      have hM := HM.out
      have hd := HD.out
      have hs := HS.out
      refine Tl.wp_mix_lit (by kernel_rfl) 23 [16, 17, 18, 19, 20, 21, 22, 23, 24, 25, 26, 27, 28, 29, 30, 31, 32, 33, 34, 35, 36, 37, 4] 38 rfl (by kernel_rfl) (BelW (w.alloc (.cells #[.string n, .string d] 131)).drew) (overF b w.heap.size mo n d s.seen r) (Below.refl _ _)
        ⟨fun a' W' hC hF => ?_, fun a' W' hC hF => ?_, fun a' W' hC hF => ?_, fun a' W' hC hF => ?_, fun a' W' hC hF => ?_, fun a' W' hC hF => ?_, fun a' W' hC hF => ?_, fun a' W' hC hF => ?_, fun a' W' hC hF => ?_, fun a' W' hC hF => ?_, fun a' W' hC hF => ?_, fun a' W' hC hF => ?_, fun a' W' hC hF => ?_, fun a' W' hC hF => ?_, fun a' W' hC hF => ?_, fun a' W' hC hF => ?_, fun a' W' hC hF => ?_, fun a' W' hC hF => ?_, fun a' W' hC hF => ?_, fun a' W' hC hF => ?_, fun a' W' hC hF => ?_, fun a' W' hC hF => ?_, fun a' W' hC hF => ?_, trivial⟩ ?_
      · exact Tl.sm_v 16 _ rfl (Tl.wanted_none rfl) hC rfl (rn_move rfl ((hF 0 (by decide +kernel)).2 (by decide)))
      · refine Tl.sm_call 132 #[ptr b] (Tl.wanted_none rfl) (rn_call1 rfl rfl ((hF 16 (by decide +kernel)).1 (by decide)) (enter60 _)) ((size_any (IsSt.below h'.drew hC) hs hd).mono ?_)
        rintro e w'' ⟨rfl, b1⟩
        exact ⟨_, rfl, hC.trans (b1.mono hC.size), fun _ _ _ h => h, fun d hd => by cases hd; rfl⟩
      · exact Tl.sm_v 18 _ rfl (Tl.wanted_none rfl) hC rfl (rn_move rfl ((hF 0 (by decide +kernel)).2 (by decide)))
      · exact Tl.sm_v 19 _ rfl (Tl.wanted_none rfl) hC rfl (rn_nilCheck rfl ((hF 18 (by decide +kernel)).1 (by decide)))
      · exact Tl.sm_v 20 _ rfl (Tl.wanted_none rfl) hC rfl (rn_f63_0 rfl ((hF 19 (by decide +kernel)).1 (by decide)))
      · exact Tl.sm_v 21 _ rfl (Tl.wanted_none rfl) hC rfl (rn_load58 rfl ((hF 20 (by decide +kernel)).1 (by decide)) (hC.cell (p := ⟨b, 0, none⟩) hbl c0))
      · exact Tl.sm_v 22 _ rfl (Tl.wanted_none rfl) hC rfl (rn_f28_0 rfl ((hF 3 (by decide +kernel)).2 (by decide)))
      · exact Tl.sm_v 23 _ rfl (Tl.wanted_none rfl) hC rfl (rn_load9 rfl ((hF 22 (by decide +kernel)).1 (by decide)) (hC.cell (p := ⟨w.heap.size, 0, none⟩) hxl x0))
      · exact Tl.sm_v 24 _ rfl (Tl.wanted_none rfl) hC rfl (rn_lookup58 rfl ((hF 21 (by decide +kernel)).1 (by decide)) ((hF 23 (by decide +kernel)).1 (by decide)) (hM.block (fun m _ hl => hC.block m hl) |>.look hn false))
      · exact Tl.sm_v 25 _ rfl (Tl.wanted_none rfl) hC rfl (rn_fld67_1 rfl ((hF 24 (by decide +kernel)).1 (by decide)))
      · exact Tl.sm_v 26 _ rfl (Tl.wanted_none rfl) hC rfl (rn_len9 rfl ((hF 25 (by decide +kernel)).1 (by decide)) )
      · exact Tl.sm_v 27 _ rfl (Tl.wanted_none rfl) hC rfl (rn_sub3 rfl ((hF 17 (by decide +kernel)).1 (by decide)) ((hF 26 (by decide +kernel)).1 (by decide)) rfl)
      · exact Tl.sm_v 28 _ rfl (Tl.wanted_none rfl) hC rfl (rn_f28_1 rfl ((hF 3 (by decide +kernel)).2 (by decide)))
      · exact Tl.sm_v 29 _ rfl (Tl.wanted_none rfl) hC rfl (rn_load9 rfl ((hF 28 (by decide +kernel)).1 (by decide)) (hC.cell (p := ⟨w.heap.size, 1, none⟩) hxl x1))
      · exact Tl.sm_v 30 _ rfl (Tl.wanted_none rfl) hC rfl (rn_len9 rfl ((hF 29 (by decide +kernel)).1 (by decide)) )
      · exact Tl.sm_v 31 _ rfl (Tl.wanted_none rfl) hC rfl (rn_add3 rfl ((hF 27 (by decide +kernel)).1 (by decide)) ((hF 30 (by decide +kernel)).1 (by decide)) rfl)
      · exact Tl.sm_v 32 _ rfl (Tl.wanted_none rfl) hC rfl (rn_move rfl ((hF 0 (by decide +kernel)).2 (by decide)))
      · exact Tl.sm_v 33 _ rfl (Tl.wanted_none rfl) hC rfl (rn_nilCheck rfl ((hF 32 (by decide +kernel)).1 (by decide)))
      · exact Tl.sm_v 34 _ rfl (Tl.wanted_none rfl) hC rfl (rn_f63_4 rfl ((hF 33 (by decide +kernel)).1 (by decide)))
      · exact Tl.sm_v 35 _ rfl (Tl.wanted_none rfl) hC rfl (rn_f61_1 rfl ((hF 34 (by decide +kernel)).1 (by decide)))
      · exact Tl.sm_v 36 _ rfl (Tl.wanted_none rfl) hC rfl (rn_load3 rfl ((hF 35 (by decide +kernel)).1 (by decide)) (hC.cell (p := ⟨b, 6, none⟩) hbl c6))
      · exact Tl.sm_v 37 _ rfl (Tl.wanted_none rfl) hC rfl (rn_gtr3 rfl ((hF 31 (by decide +kernel)).1 (by decide)) ((hF 36 (by decide +kernel)).1 (by decide)) )
      · exact Tl.sm_v 4 _ rfl (Tl.wanted_none rfl) hC rfl (rn_assign rfl ((hF 37 (by decide +kernel)).1 (by decide)))
      intro v wB hw hv
      have v4 : v 4 = .bool (decide ((r : Int) < IntKind.i64.wrap (IntKind.i64.wrap ((used s.seen : Int) - (((look n s.seen).getD ⟨#[]⟩).size : Int)) + (d.size : Int)))) := hv 4 (by decide)
      rw [Q1.out, Q2.out] at v4
      simp only [Tl.fill, List.drop_succ_cons, List.drop_zero, wpList]
      simp only [Act.put, List.setIfInBounds_toArray, List.set_cons_succ, List.set_cons_zero, v4]
      go_wp2_with fail
      go_ret
      exact ⟨by simp, HF.out.drew.trans (Below.mono hw (by simp [World.drew]))⟩
end Go.Proofs.YtmpgfpmkmgebdaaGreatDoor.W
