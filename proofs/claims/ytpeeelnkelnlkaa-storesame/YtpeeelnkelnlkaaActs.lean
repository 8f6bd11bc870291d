/- Acts as they are handed in; the contract of large. -/
import Derived.Test.YtpeeelnkelnlkaaObj
namespace Go.Proofs.Ytpeeelnkelnlkaa
open Go.RowKit Go.Maps
/-- an act, as it is read -/
structure Ac where
  kind : Nat
  name : ByteArray
  data : ByteArray
  kv : Value
  ks : List Int
  fk : Int
  ft : Int
  fn : Int
  fa : Int
  fc : Int
def acells (x : Ac) : List Value := [.int .u8 (x.kind : Int), .string x.name, .string x.data, x.kv, .int .u8 x.fk, .int .i64 x.ft, .int .i64 x.fn, .int .i64 x.fa, .int .i64 x.fc]
structure AcOk (W : World) (x : Ac) : Prop where
  kind : x.kind < 256
  name : x.name.size ≤ 140737488355328
  data : x.data.size ≤ 140737488355328
  keep : RdI W x.kv x.ks
  keeps : x.ks.length ≤ 140737488355328
  fk0 : 0 ≤ x.fk
  fk1 : x.fk < 256
  fn : x.fn < 9223372036854775808
  fa : x.fa < 9223372036854775808
def Acts (W : World) (v : Value) (l : List Ac) : Prop := ((∃ A c, v = .slice A 0 c ∧ l = []) ∨ ∃ g o cap, v = .slice (some ⟨g, o, none⟩) l.length cap ∧ l.length ≤ 9223372036854775807 ∧ g < W.heap.size ∧ ∀ j x, l[j]? = some x → ∀ i u, (acells x)[i]? = some u → W.cell? ⟨g, o + j * 9 + i, none⟩ = some u) ∧ ∀ x ∈ l, AcOk W x
theorem RdI.below {W W' : World} {v : Value} {ks : List Int} (h : RdI W v ks) (hb : Below W.heap.size W W') : RdI W' v ks := by
  rcases h with h | ⟨g, o, cap, e0, e, hg, hc⟩
  · exact .inl h
  · exact .inr ⟨g, o, cap, e0, e, Nat.lt_of_lt_of_le hg hb.size, fun j z hz => by rw [hb.cell (p := ⟨g, o + j, none⟩) hg]; exact hc j z hz⟩
theorem AcOk.below {W W' : World} {x : Ac} (h : AcOk W x) (hb : Below W.heap.size W W') : AcOk W' x := ⟨h.kind, h.name, h.data, h.keep.below hb, h.keeps, h.fk0, h.fk1, h.fn, h.fa⟩
theorem Acts.below {W W' : World} {v : Value} {l : List Ac} (h : Acts W v l) (hb : Below W.heap.size W W') : Acts W' v l := by
  refine ⟨?_, fun x hx => (h.2 x hx).below hb⟩
  rcases h.1 with h | ⟨g, o, cap, e, hl, hg, hc⟩
  · exact .inl h
  · exact .inr ⟨g, o, cap, e, hl, Nat.lt_of_lt_of_le hg hb.size, fun j x hx i u hu => by rw [hb.cell (p := ⟨g, o + j * 9 + i, none⟩) hg]; exact hc j x hx i u hu⟩
theorem RdI.form {W : World} {v : Value} {ks : List Int} (h : RdI W v ks) : ∃ a c, v = .slice a ks.length c := by
  rcases h with ⟨A, c, rfl, rfl⟩ | ⟨g, o, cap, _, rfl, _⟩
  · exact ⟨A, c, rfl⟩
  · exact ⟨_, _, rfl⟩
def acW (x : Ac) : Nat := 20 + x.data.size + x.name.size + x.ks.length
def acS (l : List Ac) : Nat := (l.map acW).sum
theorem acS_take {l : List Ac} {k : Nat} {x : Ac} (h : l[k]? = some x) : acS (l.take (k + 1)) = acS (l.take k) + acW x := by
  unfold acS
  rw [List.take_add_one, h]
  simp
theorem acS_le (l : List Ac) (k : Nat) : acS (l.take k) ≤ acS l := by
  unfold acS
  induction l generalizing k with
  | nil => simp
  | cons a r ih =>
    cases k with
    | zero => simp
    | succ k => rw [List.take_succ_cons, List.map_cons, List.map_cons, List.sum_cons, List.sum_cons]; exact Nat.add_le_add_left (ih k) _
section
variable {ev : Operand → Value} {o : Oper} {w : World} {x y : Operand}
theorem rn_ix35 {g k n c i : Nat} (ho : o.op = .indexAddr 35 x y) (hx : ev x = .slice (some ⟨g, k, none⟩) n c) (hy : ev y = .int .i64 (i : Int)) (hi : i < n) : (execOp ev o).run Try.prog w = .ok (.value (.pointer (some ⟨g, k + i * 9, none⟩))) w := by
  have q1 : (i : Int) < (n : Int) := by omega
  simp [execOp, ho, hx, hy, go_sem, q1]
theorem rn_f41_0 {g k : Nat} (ho : o.op = .fieldAddr 41 x 0) (hx : ev x = .pointer (some ⟨g, k, none⟩)) : (execOp ev o).run Try.prog w = .ok (.value (.pointer (some ⟨g, k, none⟩))) w := by
  simp [execOp, ho, hx, go_sem]
theorem rn_f41_1 {g k : Nat} (ho : o.op = .fieldAddr 41 x 1) (hx : ev x = .pointer (some ⟨g, k, none⟩)) : (execOp ev o).run Try.prog w = .ok (.value (.pointer (some ⟨g, k + 1, none⟩))) w := by
  simp [execOp, ho, hx, go_sem]
theorem rn_f41_2 {g k : Nat} (ho : o.op = .fieldAddr 41 x 2) (hx : ev x = .pointer (some ⟨g, k, none⟩)) : (execOp ev o).run Try.prog w = .ok (.value (.pointer (some ⟨g, k + 3, none⟩))) w := by
  simp [execOp, ho, hx, go_sem]
theorem rn_f41_3 {g k : Nat} (ho : o.op = .fieldAddr 41 x 3) (hx : ev x = .pointer (some ⟨g, k, none⟩)) : (execOp ev o).run Try.prog w = .ok (.value (.pointer (some ⟨g, k + 4, none⟩))) w := by
  simp [execOp, ho, hx, go_sem]
theorem rn_load39 {g k : Nat} {v : Value} (ho : o.op = .load 39 x) (hx : ev x = .pointer (some ⟨g, k, none⟩)) (hc : w.cell? ⟨g, k, none⟩ = some v) : (execOp ev o).run Try.prog w = .ok (.value v) w := by
  simp [execOp, ho, hx, hc, go_sem]
theorem rn_len39 {v : Value} {n : Nat} (ho : o.op = .call { callee := .builtin .len, args := #[x], argTypes := #[39] }) (hx : ev x = v) (hv : ∃ a c, v = .slice a n c) : (execOp ev o).run Try.prog w = .ok (.value (.int .i64 (n : Int))) w := by
  obtain ⟨a, c, rfl⟩ := hv
  simp [execOp, ho, hx, go_sem]
end
theorem wp_assign {o : Oper} {a : Act} {w : World} {K : Act → World → Prop} {Q : Exit → Act → World → Prop} {x : Operand} {d : Nat} {v : Value} (ho : o.op = .assign x) (hd : o.dst = some d) (hx : a.eval x = v) (h : K (a.put (some d) v) w) : o.wp Try.prog a w K Q := by
  unfold Oper.wp
  rw [rn_assign ho hx]
  show K (a.put o.dst v) w
  rw [hd]; exact h
theorem wrapN {a b : Nat} (h : a + b ≤ 9223372036854775807) : IntKind.i64.wrap ((a : Int) + (b : Int)) = ((a + b : Nat) : Int) := by
  rw [wrap_i64_of (by omega) (by omega)]; omega
def lgF (v0 kv : Value) (g o k N : Nat) (x : Ac) (i : Nat) (v : Value) (_ : World) : Prop := match i with
  | 15 => v = .int .i64 (N : Int)
  | 16 => v = .int .i64 ((N + 20 : Nat) : Int)
  | 17 => v = v0
  | 18 => v = .int .i64 (k : Int)
  | 19 => v = .pointer (some ⟨g, o + k * 9, none⟩)
  | 20 => v = .pointer (some ⟨g, o + k * 9 + 1, none⟩)
  | 21 => v = .pointer (some ⟨g, o + k * 9 + 1 + 1, none⟩)
  | 22 => v = .string x.data
  | 23 => v = .int .i64 (x.data.size : Int)
  | 24 => v = .int .i64 ((N + 20 + x.data.size : Nat) : Int)
  | 25 => v = v0
  | 26 => v = .int .i64 (k : Int)
  | 27 => v = .pointer (some ⟨g, o + k * 9, none⟩)
  | 28 => v = .pointer (some ⟨g, o + k * 9 + 1, none⟩)
  | 29 => v = .pointer (some ⟨g, o + k * 9 + 1, none⟩)
  | 30 => v = .string x.name
  | 31 => v = .int .i64 (x.name.size : Int)
  | 32 => v = .int .i64 ((N + 20 + x.data.size + x.name.size : Nat) : Int)
  | 33 => v = v0
  | 34 => v = .int .i64 (k : Int)
  | 35 => v = .pointer (some ⟨g, o + k * 9, none⟩)
  | 36 => v = .pointer (some ⟨g, o + k * 9 + 3, none⟩)
  | 37 => v = kv
  | 38 => v = .int .i64 (x.ks.length : Int)
  | 39 => v = .int .i64 ((N + 20 + x.data.size + x.name.size + x.ks.length : Nat) : Int)
  | _ => True
set_option maxHeartbeats 2000000 in
set_option maxRecDepth 20000 in
theorem large_any {w : World} {v : Value} {l : List Ac} (h : Acts w v l) : Calls Try.prog 20 #[v] w fun e w' => e = .returned (.bool (decide (20000 ≤ acS l))) ∧ Below w.heap.size w w' := by
  obtain ⟨h1, hok⟩ := h
  rcases h1 with ⟨A0, c0, rfl, rfl⟩ | ⟨g, o, cap, rfl, hl, hg, hc⟩
  · clear hok
    have HE := hid (show decide (20000 ≤ acS []) = false from rfl)
    go_enter Try.func20, Try.ntmps20
    go_wp2_with fail
    refine wp_loop_rounds 1 ?_
    rw [rounds_succ]
    go_wp2_with fail
    go_ret
    exact ⟨by rw [HE.out]; rfl, Below.refl _ _⟩
  · have HC := hid hc
    have HO := hid hok
    clear hc hok
    generalize hL : l.length = L at *
    have HL := hid hL
    clear hL
    go_enter Try.func20, Try.ntmps20
    go_wp2_with fail
    go_loopg [3, 4] L (fun gk s3 s4 wx => ∃ k N : Nat, k + gk = L ∧ s4 = .int .i64 (k : Int) ∧ s3 = .int .i64 (N : Int) ∧ Hid (N = acS (l.take k)) ∧ Below w.heap.size w wx)
    case atStart => exact ⟨0, 0, by omega, rfl, rfl, hid rfl, Below.refl _ _⟩
    case round =>
      obtain ⟨k, N, hk, rfl, rfl, HN, hbw⟩ := hrel
      have HBW := hid hbw
      by_cases hN : N < 20000
      · have q2 : (N : Int) < 20000 := by omega
        have q3 : ¬ (20000 : Int) ≤ (N : Int) := by omega
        cases gk with
        | zero =>
          have q1 : ¬ ((k : Int) < (L : Int)) := by omega
          have HE := hid (show decide (20000 ≤ acS l) = false from decide_eq_false (by
            have := HN.out
            rw [List.take_of_length_le (by rw [HL.out]; omega)] at this
            omega))
          clear hbw HN q2
          go_wp2_with fail
          go_ret
          exact ⟨by rw [HE.out]; rfl, HBW.out⟩
        | succ g1 =>
          have q1 : (k : Int) < (L : Int) := by omega
          have hk1 : k < L := by omega
          obtain ⟨x, hx⟩ : ∃ x, l[k]? = some x := ⟨_, List.getElem?_eq_getElem (by rw [HL.out]; exact hk1)⟩
          have hox := HO.out x (List.mem_of_getElem? hx)
          have c1 : wr.cell? ⟨g, o + k * 9 + 1, none⟩ = some (.string x.name) := by rw [hbw.cell (p := ⟨g, o + k * 9 + 1, none⟩) hg]; exact HC.out k x hx 1 _ rfl
          have c2 : wr.cell? ⟨g, o + k * 9 + 1 + 1, none⟩ = some (.string x.data) := by rw [hbw.cell (p := ⟨g, o + k * 9 + 1 + 1, none⟩) hg]; exact HC.out k x hx 2 _ rfl
          have c3 : wr.cell? ⟨g, o + k * 9 + 3, none⟩ = some x.kv := by rw [hbw.cell (p := ⟨g, o + k * 9 + 3, none⟩) hg]; exact HC.out k x hx 3 _ rfl
          have hkv := hox.keep.form
          have s1 := hox.name
          have s2 := hox.data
          have s3 := hox.keeps
          have w1 : IntKind.i64.wrap ((N : Int) + 20) = ((N + 20 : Nat) : Int) := wrapN (b := 20) (by omega)
          have w2 : IntKind.i64.wrap (((N + 20 : Nat) : Int) + (x.data.size : Int)) = ((N + 20 + x.data.size : Nat) : Int) := wrapN (by omega)
          have w3 : IntKind.i64.wrap (((N + 20 + x.data.size : Nat) : Int) + (x.name.size : Int)) = ((N + 20 + x.data.size + x.name.size : Nat) : Int) := wrapN (by omega)
          have w4 : IntKind.i64.wrap (((N + 20 + x.data.size + x.name.size : Nat) : Int) + (x.ks.length : Int)) = ((N + 20 + x.data.size + x.name.size + x.ks.length : Nat) : Int) := wrapN (by omega)
          have HS := hid (show N + 20 + x.data.size + x.name.size + x.ks.length = acS (l.take (k + 1)) from by rw [acS_take hx, ← HN.out]; unfold acW; omega)
          clear hx hox hbw HN
          go_wp2_with fail
          refine Tl.wp_mix_lit (by kernel_rfl) 25 [15, 16, 17, 18, 19, 20, 21, 22, 23, 24, 25, 26, 27, 28, 29, 30, 31, 32, 33, 34, 35, 36, 37, 38, 39] 42 rfl (by kernel_rfl) (AtW wr.drew) (lgF (.slice (some ⟨g, o, none⟩) L cap) x.kv g o k N x) rfl
            ⟨fun a' W' hC hF => ?_, fun a' W' hC hF => ?_, fun a' W' hC hF => ?_, fun a' W' hC hF => ?_, fun a' W' hC hF => ?_, fun a' W' hC hF => ?_, fun a' W' hC hF => ?_, fun a' W' hC hF => ?_, fun a' W' hC hF => ?_, fun a' W' hC hF => ?_, fun a' W' hC hF => ?_, fun a' W' hC hF => ?_, fun a' W' hC hF => ?_, fun a' W' hC hF => ?_, fun a' W' hC hF => ?_, fun a' W' hC hF => ?_, fun a' W' hC hF => ?_, fun a' W' hC hF => ?_, fun a' W' hC hF => ?_, fun a' W' hC hF => ?_, fun a' W' hC hF => ?_, fun a' W' hC hF => ?_, fun a' W' hC hF => ?_, fun a' W' hC hF => ?_, fun a' W' hC hF => ?_, trivial⟩ ?_
          · exact Tl.sm_v 15 _ rfl (Tl.wanted_none rfl) hC rfl (rn_move rfl ((hF 3 (by decide +kernel)).2 (by decide)))
          · exact Tl.sm_v 16 _ rfl (Tl.wanted_none rfl) hC rfl (rn_add3 rfl ((hF 15 (by decide +kernel)).1 (by decide)) rfl w1)
          · exact Tl.sm_v 17 _ rfl (Tl.wanted_none rfl) hC rfl (rn_move rfl ((hF 0 (by decide +kernel)).2 (by decide)))
          · exact Tl.sm_v 18 _ rfl (Tl.wanted_none rfl) hC rfl (rn_move rfl ((hF 4 (by decide +kernel)).2 (by decide)))
          · exact Tl.sm_v 19 _ rfl (Tl.wanted_none rfl) hC rfl (rn_ix35 rfl ((hF 17 (by decide +kernel)).1 (by decide)) ((hF 18 (by decide +kernel)).1 (by decide)) hk1)
          · exact Tl.sm_v 20 _ rfl (Tl.wanted_none rfl) hC rfl (rn_f41_1 rfl ((hF 19 (by decide +kernel)).1 (by decide)))
          · exact Tl.sm_v 21 _ rfl (Tl.wanted_none rfl) hC rfl (rn_f28_1 rfl ((hF 20 (by decide +kernel)).1 (by decide)))
          · exact Tl.sm_v 22 _ rfl (Tl.wanted_none rfl) hC rfl (rn_load9 rfl ((hF 21 (by decide +kernel)).1 (by decide)) (by rw [show W' = _ from hC]; exact c2))
          · exact Tl.sm_v 23 _ rfl (Tl.wanted_none rfl) hC rfl (rn_len9 rfl ((hF 22 (by decide +kernel)).1 (by decide)) )
          · exact Tl.sm_v 24 _ rfl (Tl.wanted_none rfl) hC rfl (rn_add3 rfl ((hF 16 (by decide +kernel)).1 (by decide)) ((hF 23 (by decide +kernel)).1 (by decide)) w2)
          · exact Tl.sm_v 25 _ rfl (Tl.wanted_none rfl) hC rfl (rn_move rfl ((hF 0 (by decide +kernel)).2 (by decide)))
          · exact Tl.sm_v 26 _ rfl (Tl.wanted_none rfl) hC rfl (rn_move rfl ((hF 4 (by decide +kernel)).2 (by decide)))
          · exact Tl.sm_v 27 _ rfl (Tl.wanted_none rfl) hC rfl (rn_ix35 rfl ((hF 25 (by decide +kernel)).1 (by decide)) ((hF 26 (by decide +kernel)).1 (by decide)) hk1)
          · exact Tl.sm_v 28 _ rfl (Tl.wanted_none rfl) hC rfl (rn_f41_1 rfl ((hF 27 (by decide +kernel)).1 (by decide)))
          · exact Tl.sm_v 29 _ rfl (Tl.wanted_none rfl) hC rfl (rn_f28_0 rfl ((hF 28 (by decide +kernel)).1 (by decide)))
          · exact Tl.sm_v 30 _ rfl (Tl.wanted_none rfl) hC rfl (rn_load9 rfl ((hF 29 (by decide +kernel)).1 (by decide)) (by rw [show W' = _ from hC]; exact c1))
          · exact Tl.sm_v 31 _ rfl (Tl.wanted_none rfl) hC rfl (rn_len9 rfl ((hF 30 (by decide +kernel)).1 (by decide)) )
          · exact Tl.sm_v 32 _ rfl (Tl.wanted_none rfl) hC rfl (rn_add3 rfl ((hF 24 (by decide +kernel)).1 (by decide)) ((hF 31 (by decide +kernel)).1 (by decide)) w3)
          · exact Tl.sm_v 33 _ rfl (Tl.wanted_none rfl) hC rfl (rn_move rfl ((hF 0 (by decide +kernel)).2 (by decide)))
          · exact Tl.sm_v 34 _ rfl (Tl.wanted_none rfl) hC rfl (rn_move rfl ((hF 4 (by decide +kernel)).2 (by decide)))
          · exact Tl.sm_v 35 _ rfl (Tl.wanted_none rfl) hC rfl (rn_ix35 rfl ((hF 33 (by decide +kernel)).1 (by decide)) ((hF 34 (by decide +kernel)).1 (by decide)) hk1)
          · exact Tl.sm_v 36 _ rfl (Tl.wanted_none rfl) hC rfl (rn_f41_2 rfl ((hF 35 (by decide +kernel)).1 (by decide)))
          · exact Tl.sm_v 37 _ rfl (Tl.wanted_none rfl) hC rfl (rn_load39 rfl ((hF 36 (by decide +kernel)).1 (by decide)) (by rw [show W' = _ from hC]; exact c3))
          · exact Tl.sm_v 38 _ rfl (Tl.wanted_none rfl) hC rfl (rn_len39 rfl ((hF 37 (by decide +kernel)).1 (by decide)) hkv)
          · exact Tl.sm_v 39 _ rfl (Tl.wanted_none rfl) hC rfl (rn_add3 rfl ((hF 32 (by decide +kernel)).1 (by decide)) ((hF 38 (by decide +kernel)).1 (by decide)) w4)
          intro v wB hw hv
          obtain rfl : wB = _ := hw
          have v39 : v 39 = .int .i64 ((N + 20 + x.data.size + x.name.size + x.ks.length : Nat) : Int) := hv 39 (by decide)
          obtain ⟨N', hN'⟩ : ∃ N', N + 20 + x.data.size + x.name.size + x.ks.length = N' := ⟨_, rfl⟩
          rw [hN'] at v39 HS
          clear hN'
          clear hv w1 w2 w3 w4 c1 c2 c3
          simp only [Tl.fill, List.drop_succ_cons, List.drop_zero, wpList]
          rw [if_pos (Tl.wanted_none rfl)]
          simp only [Act.put, List.setIfInBounds_toArray, List.set_cons_succ, List.set_cons_zero, v39]
          clear v39
          refine .inl (wp_assign (x := .tmp 39) (d := 3) (v := .int .i64 (N' : Int)) ?_ ?_ ?_ ?_)
          · rfl
          · rfl
          · rfl
          simp only [Act.put, List.setIfInBounds_toArray, List.set_cons_succ, List.set_cons_zero]
          go_wp2_with fail
          go_roundg g1
          case measure => omega
          case rel => exact ⟨k + 1, N', by omega, by first | rfl | simp, rfl, HS, HBW.out.drew⟩
      · have q2 : ¬ (N : Int) < 20000 := by omega
        have q3 : (20000 : Int) ≤ (N : Int) := by omega
        have HE := hid (show decide (20000 ≤ acS l) = true from decide_eq_true (by
          have := HN.out
          have := acS_le l k
          omega))
        clear hbw HN hN
        by_cases hkL : k < L
        · have q1 : (k : Int) < (L : Int) := by omega
          go_wp2_with fail
          go_ret
          exact ⟨by rw [HE.out]; rfl, HBW.out⟩
        · have q1 : ¬ (k : Int) < (L : Int) := by omega
          clear q2
          go_wp2_with fail
          go_ret
          exact ⟨by rw [HE.out]; rfl, HBW.out⟩
end Go.Proofs.Ytpeeelnkelnlkaa
