/- FrameNames: what it answers. Printed in part by gen_f12.py. -/
import Derived.Test.YtnepfllbfagfnaaDoorF10
namespace Go.Proofs.YtnepfllbfagfnaaDoor
open Go.RowKit
/-- a row of the table: a frame, and its error -/
structure Fr where
  E : Int
  G : Int
  K : Int
  N : Int
  p : ByteArray
  e : Int
def Fr.c (r : Fr) : List Value := [.int .i64 r.E, .int .i64 r.G, .int .i64 r.K, .int .i64 r.N, .string r.p, .int .i64 r.e]
def frTab (l : List Fr) : Array Value := (l.flatMap Fr.c).toArray
def strTab (l : List ByteArray) : Array Value := (l.map Value.string).toArray
section
variable {ev : Operand → Value} {o : Oper} {w : World} {x y : Operand}
theorem rn_call5 {f : FuncId} {t0 t1 t2 t3 t4 : TypeId} {x0 x1 x2 x3 x4 : Operand} {u0 u1 u2 u3 u4 : Value} (ho : o.op = .call { callee := .value (.func f), args := #[x0, x1, x2, x3, x4], argTypes := #[t0, t1, t2, t3, t4] }) (hf : ev (.func f) = .func (.func f) #[] #[]) (h0 : ev x0 = u0) (h1 : ev x1 = u1) (h2 : ev x2 = u2) (h3 : ev x3 = u3) (h4 : ev x4 = u4) (hb : (callFunc f #[u0, u1, u2, u3, u4]).run Tryd.prog w = .ok (.enter f #[u0, u1, u2, u3, u4]) w) : (execOp ev o).run Tryd.prog w = .ok (.enter f #[u0, u1, u2, u3, u4]) w := by
  simp [execOp, ho, h0, h1, h2, h3, h4, hf, go_sem, hb]
theorem rn_build31 {r : Fr} (ho : o.op = .build 31 #[(0, x), (1, y)]) (hx : ev x = .agg (frc r.E r.G r.K r.N r.p)) (hy : ev y = .int .i64 r.e) : (execOp ev o).run Tryd.prog w = .ok (.value (.agg r.c.toArray)) w := by
  simp [execOp, ho, hx, hy, go_sem, frc, Fr.c]
theorem rn_ms32 {n : Nat} {z : Int} (ho : o.op = .makeSlice 32 x y) (hx : ev x = .int .i64 z) (hy : ev y = .int .i64 z) (hz : z = (n : Int)) (hn : n ≤ 1000000) : (execOp ev o).run Tryd.prog w = .ok (.value (.slice (some ⟨w.heap.size, 0, none⟩) n n)) (w.alloc (.cells (U8s (List.replicate n 0)) 5)) := by
  subst hz
  simp [execOp, ho, hx, hy, go_sem, makes_bytes n hn w]
set_option maxRecDepth 20000 in
set_option maxHeartbeats 1000000 in
theorem rn_bs33 {r0 r1 r2 r3 r4 r5 r6 r7 r8 r9 r10 : Fr} {x0 x1 x2 x3 x4 x5 x6 x7 x8 x9 x10 : Operand} (ho : o.op = .buildSlice 33 11 #[(0, x0), (1, x1), (2, x2), (3, x3), (4, x4), (5, x5), (6, x6), (7, x7), (8, x8), (9, x9), (10, x10)])
    (h0 : ev x0 = .agg r0.c.toArray) (h1 : ev x1 = .agg r1.c.toArray) (h2 : ev x2 = .agg r2.c.toArray) (h3 : ev x3 = .agg r3.c.toArray) (h4 : ev x4 = .agg r4.c.toArray) (h5 : ev x5 = .agg r5.c.toArray) (h6 : ev x6 = .agg r6.c.toArray) (h7 : ev x7 = .agg r7.c.toArray) (h8 : ev x8 = .agg r8.c.toArray) (h9 : ev x9 = .agg r9.c.toArray) (h10 : ev x10 = .agg r10.c.toArray) :
    (execOp ev o).run Tryd.prog w = .ok (.value (.slice (some ⟨w.heap.size, 0, none⟩) 11 11)) (w.alloc (.cells (frTab [r0, r1, r2, r3, r4, r5, r6, r7, r8, r9, r10]) 31)) := by
  simp [execOp, ho, h0, h1, h2, h3, h4, h5, h6, h7, h8, h9, h10, go_sem, Fr.c, frTab]
set_option maxRecDepth 20000 in
set_option maxHeartbeats 1000000 in
theorem rn_bs38 {s0 s1 s2 s3 s4 s5 s6 s7 s8 s9 s10 s11 s12 : ByteArray} {x0 x1 x2 x3 x4 x5 x6 x7 x8 x9 x10 x11 x12 : Operand} (ho : o.op = .buildSlice 38 13 #[(0, x0), (1, x1), (2, x2), (3, x3), (4, x4), (5, x5), (6, x6), (7, x7), (8, x8), (9, x9), (10, x10), (11, x11), (12, x12)])
    (h0 : ev x0 = .string s0) (h1 : ev x1 = .string s1) (h2 : ev x2 = .string s2) (h3 : ev x3 = .string s3) (h4 : ev x4 = .string s4) (h5 : ev x5 = .string s5) (h6 : ev x6 = .string s6) (h7 : ev x7 = .string s7) (h8 : ev x8 = .string s8) (h9 : ev x9 = .string s9) (h10 : ev x10 = .string s10) (h11 : ev x11 = .string s11) (h12 : ev x12 = .string s12) :
    (execOp ev o).run Tryd.prog w = .ok (.value (.slice (some ⟨w.heap.size, 0, none⟩) 13 13)) (w.alloc (.cells (strTab [s0, s1, s2, s3, s4, s5, s6, s7, s8, s9, s10, s11, s12]) 9)) := by
  simp [execOp, ho, h0, h1, h2, h3, h4, h5, h6, h7, h8, h9, h10, h11, h12, go_sem, strTab]
theorem rn_len33 {a : Option Addr} {n c : Nat} (ho : o.op = .call { callee := .builtin .len, args := #[x], argTypes := #[33] }) (hx : ev x = .slice a n c) : (execOp ev o).run Tryd.prog w = .ok (.value (.int .i64 (n : Int))) w := by
  simp [execOp, ho, hx, go_sem]
theorem rn_len38 {a : Option Addr} {n c : Nat} (ho : o.op = .call { callee := .builtin .len, args := #[x], argTypes := #[38] }) (hx : ev x = .slice a n c) : (execOp ev o).run Tryd.prog w = .ok (.value (.int .i64 (n : Int))) w := by
  simp [execOp, ho, hx, go_sem]
theorem rn_load28 {g : Nat} {E G K N : Int} {p : ByteArray} {t : TypeId} (ho : o.op = .load 28 x) (hx : ev x = .pointer (some ⟨g, 0, none⟩)) (hc : Has w g (frc E G K N p) t) : (execOp ev o).run Tryd.prog w = .ok (.value (.agg (frc E G K N p))) w := by
  obtain ⟨c0, c1, c2, c3, c4⟩ := frc_cells hc
  simp [execOp, ho, hx, go_sem, c0, c1, c2, c3, c4, frc]
theorem rn_eql28 {E G K N : Int} {p : ByteArray} {t : TypeId} (ho : o.op = .binOp .eql 28 x y t) (hx : ev x = .agg (frc E G K N p)) (hy : ev y = .agg (frc E G K N p)) : (execOp ev o).run Tryd.prog w = .ok (.value (.bool true)) w := by
  simp [execOp, ho, hx, hy, go_sem, frc]
end
/-- what a row's frame comes to -/
def Fr.good (r : Fr) : Prop := mkE r.E r.G r.K r.N r.p = r.e
/-- the table -/
def tab (A B C : ByteArray) : List Fr := [⟨0, 0, 1, 1, ⟨#[]⟩, 0⟩, ⟨2147483647, 2147483647, 12, 12, ⟨#[98]⟩, 0⟩, ⟨-1, 0, 1, 1, ⟨#[]⟩, 1⟩, ⟨0, -1, 1, 1, ⟨#[]⟩, 1⟩, ⟨2147483648, 0, 1, 1, ⟨#[]⟩, 1⟩, ⟨0, 2147483648, 1, 1, ⟨#[]⟩, 1⟩, ⟨0, 0, 0, 1, ⟨#[]⟩, 1⟩, ⟨0, 0, 1, 13, ⟨#[]⟩, 1⟩, ⟨0, 0, 1, 1, A, 0⟩, ⟨0, 0, 1, 1, B, 40⟩, ⟨0, 0, 0, 1, C, 1⟩]
theorem mkE_of {E G K N : Int} {p : ByteArray} (h : okF E G K N = true) : mkE E G K N p = if p.size ≤ 65486 then 0 else 40 := by unfold mkE; rw [h]; rfl
theorem mkE_not {E G K N : Int} {p : ByteArray} (h : okF E G K N = false) : mkE E G K N p = 1 := by unfold mkE; rw [h]; rfl
theorem tab_good {A B C : ByteArray} (hA : A.size = 65486) (hB : B.size = 65487) : ∀ r ∈ tab A B C, r.good := by
  intro r hr
  unfold tab at hr
  simp only [List.mem_cons, List.not_mem_nil, or_false] at hr
  unfold Fr.good
  rcases hr with rfl | rfl | rfl | rfl | rfl | rfl | rfl | rfl | rfl | rfl | rfl
  · decide +kernel
  · decide +kernel
  · exact mkE_not (by decide +kernel)
  · exact mkE_not (by decide +kernel)
  · exact mkE_not (by decide +kernel)
  · exact mkE_not (by decide +kernel)
  · exact mkE_not (by decide +kernel)
  · exact mkE_not (by decide +kernel)
  · rw [mkE_of (show okF 0 0 1 1 = true by decide +kernel), if_pos (by show A.size ≤ 65486; omega)]
  · rw [mkE_of (show okF 0 0 1 1 = true by decide +kernel), if_neg (by show ¬ B.size ≤ 65486; omega)]
  · exact mkE_not (show okF 0 0 0 1 = false by decide +kernel)
/-- what Make and Read of it tell -/
theorem fr_calls {r : Fr} (h : r.good) : ∃ (Y : ByteArray) (E G K N : Int) (p : ByteArray) (R : Int), Hid (∀ W, Tabs W → Calls Tryd.prog 9 #[.agg #[.int .i64 r.E, .int .i64 r.G, .int .i64 r.K, .int .i64 r.N, .string r.p]] W fun e w' => e = .returned (.tuple #[.string Y, .int .i64 r.e]) ∧ Below W.heap.size W w') ∧
    Hid (∀ W, Tabs W → Calls Tryd.prog 10 #[.string Y] W fun e w' => e = .returned (.tuple #[.agg #[.int .i64 E, .int .i64 G, .int .i64 K, .int .i64 N, .string p], .int .i64 R]) ∧ Below W.heap.size W w') ∧ (r.e = 0 → R = 0 ∧ E = r.E ∧ G = r.G ∧ K = r.K ∧ N = r.N ∧ p = r.p) := by
  have hM : ∀ W, Tabs W → Calls Tryd.prog 9 #[.agg #[.int .i64 r.E, .int .i64 r.G, .int .i64 r.K, .int .i64 r.N, .string r.p]] W fun e w' => e = .returned (.tuple #[.string (mkD r.E r.G r.K r.N r.p), .int .i64 r.e]) ∧ Below W.heap.size W w' := fun W hW => by
    have := make_any r.E r.G r.K r.N r.p W hW
    rw [h] at this
    exact this
  by_cases h0 : r.e = 0
  · obtain ⟨en, gn, kn, nn, e1, e2, e3, e4, hI⟩ := mk_is (show mkE r.E r.G r.K r.N r.p = 0 by rw [h]; exact h0)
    refine ⟨mkD r.E r.G r.K r.N r.p, r.E, r.G, r.K, r.N, r.p, 0, hM, fun W hW => ?_, fun _ => ⟨rfl, rfl, rfl, rfl, rfl, rfl⟩⟩
    have := read_any (mkD r.E r.G r.K r.N r.p) W hW
    rw [rdV_yes hI, ← e1, ← e2, ← e3, ← e4] at this
    exact this
  · exact ⟨mkD r.E r.G r.K r.N r.p, _, _, _, _, _, _, hM, fun W hW => by have := read_any (mkD r.E r.G r.K r.N r.p) W hW; rw [rdV_eq] at this; exact this, fun hh => absurd hh h0⟩
theorem frTab_at : ∀ (l : List Fr) (k j : Nat) (r : Fr) (v : Value), l[k]? = some r → r.c[j]? = some v → (l.flatMap Fr.c)[k * 6 + j]? = some v
  | [], k, j, r, v, h, _ => by simp at h
  | x :: l, 0, j, r, v, h, hj => by
    simp only [List.getElem?_cons_zero, Option.some.injEq] at h
    subst h
    have hl : j < x.c.length := (List.getElem?_eq_some_iff.1 hj).1
    rw [List.flatMap_cons, List.getElem?_append_left (by simpa using hl)]
    simpa using hj
  | x :: l, k + 1, j, r, v, h, hj => by
    have hx : x.c.length = 6 := rfl
    rw [List.flatMap_cons, List.getElem?_append_right (by rw [hx]; omega), hx, show (k + 1) * 6 + j - 6 = k * 6 + j by omega]
    exact frTab_at l k j r v (by simpa using h) hj
theorem fr_cells {W : World} {b : Nat} {l : List Fr} {t : TypeId} (h : Has W b (frTab l) t) {k : Nat} {r : Fr} (hr : l[k]? = some r) :
    W.cell? ⟨b, k * 6, none⟩ = some (.int .i64 r.E) ∧ W.cell? ⟨b, k * 6 + 1, none⟩ = some (.int .i64 r.G) ∧ W.cell? ⟨b, k * 6 + 2, none⟩ = some (.int .i64 r.K) ∧ W.cell? ⟨b, k * 6 + 3, none⟩ = some (.int .i64 r.N) ∧ W.cell? ⟨b, k * 6 + 4, none⟩ = some (.string r.p) ∧ W.cell? ⟨b, k * 6 + 5, none⟩ = some (.int .i64 r.e) := by
  have g : ∀ j v, r.c[j]? = some v → W.cell? ⟨b, k * 6 + j, none⟩ = some v := fun j v hj => by
    have := frTab_at l k j r v hr hj
    have hc : (frTab l)[k * 6 + j]? = some v := by unfold frTab; simpa using this
    have hh := h
    unfold Has at hh
    simp [World.cell?, hh, hc]
  exact ⟨g 0 _ rfl, g 1 _ rfl, g 2 _ rfl, g 3 _ rfl, g 4 _ rfl, g 5 _ rfl⟩
theorem str_cell {W : World} {b : Nat} {l : List ByteArray} {t : TypeId} (h : Has W b (strTab l) t) {k : Nat} {s : ByteArray} (hr : l[k]? = some s) : W.cell? ⟨b, k, none⟩ = some (.string s) := by
  have hc : (strTab l)[k]? = some (.string s) := by unfold strTab; simp [hr]
  have hh := h
  unfold Has at hh
  simp [World.cell?, hh, hc]
/-- the memory of FrameNames -/
structure NmW (c : Array Value) (b : Nat) (t : TypeId) (w W : World) : Prop where
  hs : Has W b c t
  bl : Below w.heap.size w W
theorem NmW.next {c : Array Value} {b : Nat} {t : TypeId} {w W W' : World} (h : NmW c b t w W) (hb : Below W.heap.size W W') : NmW c b t w W' :=
  ⟨h.hs.below hb h.hs.lt, belowCall h.bl hb⟩
theorem NmW.alloc {c : Array Value} {b : Nat} {t : TypeId} {w W : World} (h : NmW c b t w W) (o : Obj) : NmW c b t w (W.alloc o) := h.next ((Below.refl _ _).alloc (Nat.le_refl _) _)
/-- bytes that are no frame's, with their digest behind -/
theorem rd_bad (t : ByteArray) (h : t.size < 18 ∨ hdOk (bs t) (t.size + 32) = false) : rdOk (t ++ ofBs (Sha.digest (bs t))) = false := by
  cases hr : rdOk (t ++ ofBs (Sha.digest (bs t))) with
  | false => rfl
  | true =>
    have h1 := rd_head hr
    have hz : (t ++ ofBs (Sha.digest (bs t))).size = t.size + 32 := by rw [ByteArray.size_append, ofBs_size, digest_length]
    rw [bs_append, hz] at h1
    rcases h with h | h
    · unfold hdOk at h1
      simp only [Bool.and_eq_true, decide_eq_true_eq] at h1
      have := h1.1.1.1.1.1.1.1
      omega
    · by_cases hs : t.size < 18
      · unfold hdOk at h1
        simp only [Bool.and_eq_true, decide_eq_true_eq] at h1
        have := h1.1.1.1.1.1.1.1
        omega
      · have hl : 18 ≤ (bs t).length := by rw [bs_length]; omega
        have e : hdOk (bs t ++ bs (ofBs (Sha.digest (bs t)))) (t.size + 32) = hdOk (bs t) (t.size + 32) := by
          unfold hdOk
          rw [List.take_append_of_le_length (by omega), n4_app _ _ 4 (by omega), n4_app _ _ 8 (by omega), n4_app _ _ 14 (by omega), getD_app _ _ 12 (by omega), getD_app _ _ 13 (by omega)]
        rw [e, h] at h1
        cases h1
def bads : List ByteArray := [⟨#[]⟩, ⟨#[109, 97, 110, 49]⟩, ⟨#[109, 97, 110, 50]⟩ ++ gd.extract 4 gd.size, gd ++ ⟨#[121]⟩, gd.extract 0 18, gd.extract 0 17, ⟨#[109, 97, 110, 49, 128]⟩ ++ gd.extract 5 gd.size, gd.extract 0 8 ++ ⟨#[255]⟩ ++ gd.extract 9 gd.size, gd.extract 0 12 ++ ⟨#[4]⟩ ++ gd.extract 13 gd.size, gd.extract 0 12 ++ ⟨#[0]⟩ ++ gd.extract 13 gd.size, gd.extract 0 13 ++ ⟨#[13]⟩ ++ gd.extract 14 gd.size, gd.extract 0 17 ++ ⟨#[2, 120]⟩, gd.extract 0 14 ++ ⟨#[255, 255, 255, 255, 120]⟩]
theorem bads_check : (bads.all fun t => (decide (t.size < 18) || !hdOk (bs t) (t.size + 32)) && decide (t.size ≤ 100)) = true := by decide +kernel
theorem bads_bad {k : Nat} {t : ByteArray} (h : bads[k]? = some t) : rdOk (t ++ ofBs (Sha.digest (bs t))) = false ∧ t.size ≤ 100 := by
  have h1 := (List.all_eq_true.1 bads_check) t (List.mem_of_getElem? h)
  simp only [Bool.and_eq_true, Bool.or_eq_true, decide_eq_true_eq, Bool.not_eq_true'] at h1
  exact ⟨rd_bad t h1.1, h1.2⟩
theorem read_fails (s : ByteArray) (h : rdOk s = false) : ∃ (E G K N : Int) (p : ByteArray), Hid (∀ W, Tabs W → Calls Tryd.prog 10 #[.string s] W fun e w' => e = .returned (.tuple #[.agg #[.int .i64 E, .int .i64 G, .int .i64 K, .int .i64 N, .string p], .int .i64 4]) ∧ Below W.heap.size W w') :=
  ⟨0, 0, 0, 0, ⟨#[]⟩, fun W hW => by have := read_any s W hW; rw [rdV_no h] at this; exact this⟩
theorem dig_apart : Sha.digest (bs gd) ≠ Sha.digest (bs (gd.extract 1 gd.size)) := by decide +kernel
theorem rd_wrong : rdOk (gd ++ ofBs (Sha.digest (bs (gd.extract 1 gd.size)))) = false := by
  cases hr : rdOk (gd ++ ofBs (Sha.digest (bs (gd.extract 1 gd.size)))) with
  | false => rfl
  | true =>
    exfalso
    obtain ⟨e, g, k, n, _, _, _, _, hd⟩ := rd_is hr
    have hh := hd.head
    have hz : (gd ++ ofBs (Sha.digest (bs (gd.extract 1 gd.size)))).size - 32 = (bs gd).length := by rw [ByteArray.size_append, ofBs_size, digest_length, bs_length]; omega
    rw [hz, bs_append, bs_ofBs _ (digest_lt _), List.take_left, List.drop_left] at hh
    exact dig_apart (by rw [hh.1, ← hh.2])
def nv (A B C : ByteArray) : Nat → Value
  | 28 => .agg (frc 0 0 1 1 ⟨#[]⟩)
  | 29 => .agg (Fr.c ⟨0, 0, 1, 1, ⟨#[]⟩, 0⟩).toArray
  | 30 => .agg (frc 2147483647 2147483647 12 12 ⟨#[98]⟩)
  | 31 => .agg (Fr.c ⟨2147483647, 2147483647, 12, 12, ⟨#[98]⟩, 0⟩).toArray
  | 32 => .agg (frc (-1) 0 1 1 ⟨#[]⟩)
  | 33 => .agg (Fr.c ⟨(-1), 0, 1, 1, ⟨#[]⟩, 1⟩).toArray
  | 34 => .agg (frc 0 (-1) 1 1 ⟨#[]⟩)
  | 35 => .agg (Fr.c ⟨0, (-1), 1, 1, ⟨#[]⟩, 1⟩).toArray
  | 36 => .agg (frc 2147483648 0 1 1 ⟨#[]⟩)
  | 37 => .agg (Fr.c ⟨2147483648, 0, 1, 1, ⟨#[]⟩, 1⟩).toArray
  | 38 => .agg (frc 0 2147483648 1 1 ⟨#[]⟩)
  | 39 => .agg (Fr.c ⟨0, 2147483648, 1, 1, ⟨#[]⟩, 1⟩).toArray
  | 40 => .agg (frc 0 0 0 1 ⟨#[]⟩)
  | 41 => .agg (Fr.c ⟨0, 0, 0, 1, ⟨#[]⟩, 1⟩).toArray
  | 42 => .agg (frc 0 0 1 13 ⟨#[]⟩)
  | 43 => .agg (Fr.c ⟨0, 0, 1, 13, ⟨#[]⟩, 1⟩).toArray
  | 46 => .agg (frc 0 0 1 1 A)
  | 47 => .agg (Fr.c ⟨0, 0, 1, 1, A, 0⟩).toArray
  | 50 => .agg (frc 0 0 1 1 B)
  | 51 => .agg (Fr.c ⟨0, 0, 1, 1, B, 40⟩).toArray
  | 54 => .agg (frc 0 0 0 1 C)
  | 55 => .agg (Fr.c ⟨0, 0, 0, 1, C, 1⟩).toArray
  | 45 => .string A
  | 49 => .string B
  | 53 => .string C
  | 57 => .int .i64 11
  | 58 => .int .i64 0
  | _ => undef
def nF (n1 n2 n3 : Nat) (A B C : ByteArray) (d : Nat) (v : Value) (W : World) : Prop :=
  match d with
  | 44 => ∃ b, v = .slice (some ⟨b, 0, none⟩) n1 n1 ∧ Has W b (U8s (List.replicate n1 0)) 5
  | 48 => ∃ b, v = .slice (some ⟨b, 0, none⟩) n2 n2 ∧ Has W b (U8s (List.replicate n2 0)) 5
  | 52 => ∃ b, v = .slice (some ⟨b, 0, none⟩) n3 n3 ∧ Has W b (U8s (List.replicate n3 0)) 5
  | 56 => ∃ b, v = .slice (some ⟨b, 0, none⟩) 11 11 ∧ Has W b (frTab (tab A B C)) 31
  | _ => v = nv A B C d
theorem nF_mono (n1 n2 n3 : Nat) (A B C : ByteArray) (d : Nat) (v : Value) (w w' : World) (h : nF n1 n2 n3 A B C d v w) (hb : Below w.heap.size w w') : nF n1 n2 n3 A B C d v w' := by
  unfold nF at h ⊢
  split <;> simp only at h
  · obtain ⟨b, h1, h2⟩ := h; exact ⟨b, h1, h2.below hb h2.lt⟩
  · obtain ⟨b, h1, h2⟩ := h; exact ⟨b, h1, h2.below hb h2.lt⟩
  · obtain ⟨b, h1, h2⟩ := h; exact ⟨b, h1, h2.below hb h2.lt⟩
  · obtain ⟨b, h1, h2⟩ := h; exact ⟨b, h1, h2.below hb h2.lt⟩
  · exact h
theorem conv_zs (n : Nat) (Z : ByteArray) (hZ : Hid (ofBs (List.replicate n 0) = Z)) (W : World) (b : Nat) (h : Has W b (U8s (List.replicate n 0)) 5) : (convert 32 9 (.slice (some ⟨b, 0, none⟩) n n)).run Tryd.prog W = .ok (.string Z) W := by
  have := conv_str W b (List.replicate n 0) 5 n h
  rw [List.length_replicate, hZ.out] at this
  exact this
def lv : Nat → Value
  | 168 => .int .i64 4
  | 169 => .bool true
  | 170 => .bool true
  | 171 => .int .i64 0
  | 172 => .bool true
  | 173 => .bool true
  | 174 => .bool true
  | 175 => .agg (frc 1 2 2 3 ⟨#[120]⟩)
  | 176 => .agg (frc 1 2 2 3 ⟨#[120]⟩)
  | 177 => .bool true
  | 178 => .bool true
  | 0 => .bool true
  | _ => undef
def ov : Nat → Value
  | 92 => .string gd
  | 93 => .string (gd.extract 4 gd.size)
  | 94 => .string (⟨#[109, 97, 110, 50]⟩ ++ gd.extract 4 gd.size)
  | 95 => .string gd
  | 96 => .string (gd ++ ⟨#[121]⟩)
  | 97 => .string gd
  | 98 => .string (gd.extract 0 18)
  | 99 => .string gd
  | 100 => .string (gd.extract 0 17)
  | 101 => .string gd
  | 102 => .string (gd.extract 5 gd.size)
  | 103 => .string (⟨#[109, 97, 110, 49, 128]⟩ ++ gd.extract 5 gd.size)
  | 104 => .string gd
  | 105 => .string (gd.extract 0 8)
  | 106 => .string (gd.extract 0 8 ++ ⟨#[255]⟩)
  | 107 => .string gd
  | 108 => .string (gd.extract 9 gd.size)
  | 109 => .string (gd.extract 0 8 ++ ⟨#[255]⟩ ++ gd.extract 9 gd.size)
  | 110 => .string gd
  | 111 => .string (gd.extract 0 12)
  | 112 => .string (gd.extract 0 12 ++ ⟨#[4]⟩)
  | 113 => .string gd
  | 114 => .string (gd.extract 13 gd.size)
  | 115 => .string (gd.extract 0 12 ++ ⟨#[4]⟩ ++ gd.extract 13 gd.size)
  | 116 => .string gd
  | 117 => .string (gd.extract 0 12)
  | 118 => .string (gd.extract 0 12 ++ ⟨#[0]⟩)
  | 119 => .string gd
  | 120 => .string (gd.extract 13 gd.size)
  | 121 => .string (gd.extract 0 12 ++ ⟨#[0]⟩ ++ gd.extract 13 gd.size)
  | 122 => .string gd
  | 123 => .string (gd.extract 0 13)
  | 124 => .string (gd.extract 0 13 ++ ⟨#[13]⟩)
  | 125 => .string gd
  | 126 => .string (gd.extract 14 gd.size)
  | 127 => .string (gd.extract 0 13 ++ ⟨#[13]⟩ ++ gd.extract 14 gd.size)
  | 128 => .string gd
  | 129 => .string (gd.extract 0 17)
  | 130 => .string (gd.extract 0 17 ++ ⟨#[2, 120]⟩)
  | 131 => .string gd
  | 132 => .string (gd.extract 0 14)
  | 133 => .string (gd.extract 0 14 ++ ⟨#[255, 255, 255, 255, 120]⟩)
  | 135 => .int .i64 13
  | 136 => .int .i64 0
  | _ => undef
def oF (d : Nat) (v : Value) (W : World) : Prop :=
  match d with
  | 134 => ∃ b, v = .slice (some ⟨b, 0, none⟩) 13 13 ∧ Has W b (strTab bads) 9
  | _ => v = ov d
theorem oF_mono (d : Nat) (v : Value) (w w' : World) (h : oF d v w) (hb : Below w.heap.size w w') : oF d v w' := by
  unfold oF at h ⊢
  split <;> simp only at h
  · obtain ⟨b, h1, h2⟩ := h; exact ⟨b, h1, h2.below hb h2.lt⟩
  · exact h
theorem gd_size : gd.size = 19 := rfl
set_option maxRecDepth 20000 in
set_option maxHeartbeats 4000000 in
theorem names_aux (n1 n2 n3 : Nat) (h1 : Hid (n1 = 65486)) (h2 : Hid (n2 = 65487)) (h3 : Hid (n3 = 70000)) (A B C : ByteArray) (hA : Hid (ofBs (List.replicate n1 0) = A)) (hB : Hid (ofBs (List.replicate n2 0) = B)) (hC : Hid (ofBs (List.replicate n3 0) = C)) (w : World) (ht : Tabs w) :
    Calls Tryd.prog 3 #[] w fun e w' => e = .returned (.bool true) ∧ Below w.heap.size w w' := by
  have GD : Hid (∀ r ∈ tab A B C, r.good) := tab_good (by rw [← hA.out, ofBs_size, List.length_replicate, h1.out]) (by rw [← hB.out, ofBs_size, List.length_replicate, h2.out])
  have z1 : (65486 : Int) = (n1 : Int) := by rw [h1.out]; rfl
  have z2 : (65487 : Int) = (n2 : Int) := by rw [h2.out]; rfl
  have z3 : (70000 : Int) = (n3 : Int) := by rw [h3.out]; rfl
  have l1 : n1 ≤ 1000000 := by rw [h1.out]; decide
  have l2 : n2 ≤ 1000000 := by rw [h2.out]; decide
  have l3 : n3 ≤ 1000000 := by rw [h3.out]; decide
  have Z1 := hidR z1
  have Z2 := hidR z2
  have Z3 := hidR z3
  clear z1 z2 z3 h1 h2 h3
  have C1 := hidR (conv_zs n1 A hA)
  have C2 := hidR (conv_zs n2 B hB)
  have C3 := hidR (conv_zs n3 C hC)
  clear hA hB hC
  go_enter Tryd.func3, Tryd.ntmps3
  go_wp2_with fail
  refine (works_any _ ht).mono ?_
  rintro e w1 ⟨rfl, b1⟩
  go_wp2_with fail
  refine Tl.wp_tail_lit (by kernel_rfl) 31 [28, 29, 30, 31, 32, 33, 34, 35, 36, 37, 38, 39, 40, 41, 42, 43, 44, 45, 46, 47, 48, 49, 50, 51, 52, 53, 54, 55, 56, 57, 58] 179 rfl (by kernel_rfl) (fun W => Below w.heap.size w W) (nF n1 n2 n3 A B C) (nF_mono _ _ _ _ _ _) b1.drew
    ⟨fun a' W' hC hF => ?_, fun a' W' hC hF => ?_, fun a' W' hC hF => ?_, fun a' W' hC hF => ?_, fun a' W' hC hF => ?_, fun a' W' hC hF => ?_, fun a' W' hC hF => ?_, fun a' W' hC hF => ?_, fun a' W' hC hF => ?_, fun a' W' hC hF => ?_, fun a' W' hC hF => ?_, fun a' W' hC hF => ?_, fun a' W' hC hF => ?_, fun a' W' hC hF => ?_, fun a' W' hC hF => ?_, fun a' W' hC hF => ?_, fun a' W' hC hF => ?_, fun a' W' hC hF => ?_, fun a' W' hC hF => ?_, fun a' W' hC hF => ?_, fun a' W' hC hF => ?_, fun a' W' hC hF => ?_, fun a' W' hC hF => ?_, fun a' W' hC hF => ?_, fun a' W' hC hF => ?_, fun a' W' hC hF => ?_, fun a' W' hC hF => ?_, fun a' W' hC hF => ?_, fun a' W' hC hF => ?_, fun a' W' hC hF => ?_, fun a' W' hC hF => ?_, trivial⟩ ?_
  · exact Tl.st_call 28 8 _ rfl (Tl.wanted_none rfl) (rn_call5 rfl rfl rfl rfl rfl rfl rfl (enter8 _)) ((of_any 0 0 1 1 ⟨#[]⟩ W').mono fun e w'' h => ⟨_, h.1, belowCall hC h.2, h.2, rfl⟩)
  · exact Tl.st_v 29 _ rfl rfl hC rfl (rn_build31 (r := ⟨0, 0, 1, 1, ⟨#[]⟩, 0⟩) rfl ((hF 28 (by decide +kernel)).1 (by decide)) rfl)
  · exact Tl.st_call 30 8 _ rfl (Tl.wanted_none rfl) (rn_call5 rfl rfl rfl rfl rfl rfl rfl (enter8 _)) ((of_any 2147483647 2147483647 12 12 ⟨#[98]⟩ W').mono fun e w'' h => ⟨_, h.1, belowCall hC h.2, h.2, rfl⟩)
  · exact Tl.st_v 31 _ rfl rfl hC rfl (rn_build31 (r := ⟨2147483647, 2147483647, 12, 12, ⟨#[98]⟩, 0⟩) rfl ((hF 30 (by decide +kernel)).1 (by decide)) rfl)
  · exact Tl.st_call 32 8 _ rfl (Tl.wanted_none rfl) (rn_call5 rfl rfl rfl rfl rfl rfl rfl (enter8 _)) ((of_any (-1) 0 1 1 ⟨#[]⟩ W').mono fun e w'' h => ⟨_, h.1, belowCall hC h.2, h.2, rfl⟩)
  · exact Tl.st_v 33 _ rfl rfl hC rfl (rn_build31 (r := ⟨(-1), 0, 1, 1, ⟨#[]⟩, 1⟩) rfl ((hF 32 (by decide +kernel)).1 (by decide)) rfl)
  · exact Tl.st_call 34 8 _ rfl (Tl.wanted_none rfl) (rn_call5 rfl rfl rfl rfl rfl rfl rfl (enter8 _)) ((of_any 0 (-1) 1 1 ⟨#[]⟩ W').mono fun e w'' h => ⟨_, h.1, belowCall hC h.2, h.2, rfl⟩)
  · exact Tl.st_v 35 _ rfl rfl hC rfl (rn_build31 (r := ⟨0, (-1), 1, 1, ⟨#[]⟩, 1⟩) rfl ((hF 34 (by decide +kernel)).1 (by decide)) rfl)
  · exact Tl.st_call 36 8 _ rfl (Tl.wanted_none rfl) (rn_call5 rfl rfl rfl rfl rfl rfl rfl (enter8 _)) ((of_any 2147483648 0 1 1 ⟨#[]⟩ W').mono fun e w'' h => ⟨_, h.1, belowCall hC h.2, h.2, rfl⟩)
  · exact Tl.st_v 37 _ rfl rfl hC rfl (rn_build31 (r := ⟨2147483648, 0, 1, 1, ⟨#[]⟩, 1⟩) rfl ((hF 36 (by decide +kernel)).1 (by decide)) rfl)
  · exact Tl.st_call 38 8 _ rfl (Tl.wanted_none rfl) (rn_call5 rfl rfl rfl rfl rfl rfl rfl (enter8 _)) ((of_any 0 2147483648 1 1 ⟨#[]⟩ W').mono fun e w'' h => ⟨_, h.1, belowCall hC h.2, h.2, rfl⟩)
  · exact Tl.st_v 39 _ rfl rfl hC rfl (rn_build31 (r := ⟨0, 2147483648, 1, 1, ⟨#[]⟩, 1⟩) rfl ((hF 38 (by decide +kernel)).1 (by decide)) rfl)
  · exact Tl.st_call 40 8 _ rfl (Tl.wanted_none rfl) (rn_call5 rfl rfl rfl rfl rfl rfl rfl (enter8 _)) ((of_any 0 0 0 1 ⟨#[]⟩ W').mono fun e w'' h => ⟨_, h.1, belowCall hC h.2, h.2, rfl⟩)
  · exact Tl.st_v 41 _ rfl rfl hC rfl (rn_build31 (r := ⟨0, 0, 0, 1, ⟨#[]⟩, 1⟩) rfl ((hF 40 (by decide +kernel)).1 (by decide)) rfl)
  · exact Tl.st_call 42 8 _ rfl (Tl.wanted_none rfl) (rn_call5 rfl rfl rfl rfl rfl rfl rfl (enter8 _)) ((of_any 0 0 1 13 ⟨#[]⟩ W').mono fun e w'' h => ⟨_, h.1, belowCall hC h.2, h.2, rfl⟩)
  · exact Tl.st_v 43 _ rfl rfl hC rfl (rn_build31 (r := ⟨0, 0, 1, 13, ⟨#[]⟩, 1⟩) rfl ((hF 42 (by decide +kernel)).1 (by decide)) rfl)
  · refine Tl.st_val 44 (.slice (some ⟨W'.heap.size, 0, none⟩) n1 n1) rfl (Tl.wanted_none rfl) (rn_ms32 rfl rfl rfl Z1.out l1) (belowAlloc hC _) ((Below.refl _ _).alloc (Nat.le_refl _) _) ?_
    exact ⟨W'.heap.size, rfl, Has.new _ _ _ _ rfl⟩
  · obtain ⟨b, hb1, hb2⟩ : ∃ b, a'.tmps.getD 44 undef = .slice (some ⟨b, 0, none⟩) n1 n1 ∧ Has W' b (U8s (List.replicate n1 0)) 5 := (hF 44 (by decide +kernel)).1 (by decide)
    exact Tl.st_v 45 _ rfl rfl hC rfl (rn_c329 rfl hb1 (C1.out _ _ hb2))
  · exact Tl.st_call 46 8 _ rfl (Tl.wanted_none rfl) (rn_call5 rfl rfl rfl rfl rfl rfl ((hF 45 (by decide +kernel)).1 (by decide)) (enter8 _)) ((of_any 0 0 1 1 A W').mono fun e w'' h => ⟨_, h.1, belowCall hC h.2, h.2, rfl⟩)
  · exact Tl.st_v 47 _ rfl rfl hC rfl (rn_build31 (r := ⟨0, 0, 1, 1, A, 0⟩) rfl ((hF 46 (by decide +kernel)).1 (by decide)) rfl)
  · refine Tl.st_val 48 (.slice (some ⟨W'.heap.size, 0, none⟩) n2 n2) rfl (Tl.wanted_none rfl) (rn_ms32 rfl rfl rfl Z2.out l2) (belowAlloc hC _) ((Below.refl _ _).alloc (Nat.le_refl _) _) ?_
    exact ⟨W'.heap.size, rfl, Has.new _ _ _ _ rfl⟩
  · obtain ⟨b, hb1, hb2⟩ : ∃ b, a'.tmps.getD 48 undef = .slice (some ⟨b, 0, none⟩) n2 n2 ∧ Has W' b (U8s (List.replicate n2 0)) 5 := (hF 48 (by decide +kernel)).1 (by decide)
    exact Tl.st_v 49 _ rfl rfl hC rfl (rn_c329 rfl hb1 (C2.out _ _ hb2))
  · exact Tl.st_call 50 8 _ rfl (Tl.wanted_none rfl) (rn_call5 rfl rfl rfl rfl rfl rfl ((hF 49 (by decide +kernel)).1 (by decide)) (enter8 _)) ((of_any 0 0 1 1 B W').mono fun e w'' h => ⟨_, h.1, belowCall hC h.2, h.2, rfl⟩)
  · exact Tl.st_v 51 _ rfl rfl hC rfl (rn_build31 (r := ⟨0, 0, 1, 1, B, 40⟩) rfl ((hF 50 (by decide +kernel)).1 (by decide)) rfl)
  · refine Tl.st_val 52 (.slice (some ⟨W'.heap.size, 0, none⟩) n3 n3) rfl (Tl.wanted_none rfl) (rn_ms32 rfl rfl rfl Z3.out l3) (belowAlloc hC _) ((Below.refl _ _).alloc (Nat.le_refl _) _) ?_
    exact ⟨W'.heap.size, rfl, Has.new _ _ _ _ rfl⟩
  · obtain ⟨b, hb1, hb2⟩ : ∃ b, a'.tmps.getD 52 undef = .slice (some ⟨b, 0, none⟩) n3 n3 ∧ Has W' b (U8s (List.replicate n3 0)) 5 := (hF 52 (by decide +kernel)).1 (by decide)
    exact Tl.st_v 53 _ rfl rfl hC rfl (rn_c329 rfl hb1 (C3.out _ _ hb2))
  · exact Tl.st_call 54 8 _ rfl (Tl.wanted_none rfl) (rn_call5 rfl rfl rfl rfl rfl rfl ((hF 53 (by decide +kernel)).1 (by decide)) (enter8 _)) ((of_any 0 0 0 1 C W').mono fun e w'' h => ⟨_, h.1, belowCall hC h.2, h.2, rfl⟩)
  · exact Tl.st_v 55 _ rfl rfl hC rfl (rn_build31 (r := ⟨0, 0, 0, 1, C, 1⟩) rfl ((hF 54 (by decide +kernel)).1 (by decide)) rfl)
  · refine Tl.st_val 56 (.slice (some ⟨W'.heap.size, 0, none⟩) 11 11) rfl (Tl.wanted_none rfl) (rn_bs33 rfl ((hF 29 (by decide +kernel)).1 (by decide)) ((hF 31 (by decide +kernel)).1 (by decide)) ((hF 33 (by decide +kernel)).1 (by decide)) ((hF 35 (by decide +kernel)).1 (by decide)) ((hF 37 (by decide +kernel)).1 (by decide)) ((hF 39 (by decide +kernel)).1 (by decide)) ((hF 41 (by decide +kernel)).1 (by decide)) ((hF 43 (by decide +kernel)).1 (by decide)) ((hF 47 (by decide +kernel)).1 (by decide)) ((hF 51 (by decide +kernel)).1 (by decide)) ((hF 55 (by decide +kernel)).1 (by decide))) (belowAlloc hC _) ((Below.refl _ _).alloc (Nat.le_refl _) _) ?_
    exact ⟨W'.heap.size, rfl, Has.new _ _ _ _ rfl⟩
  · obtain ⟨b, hb1, hb2⟩ : ∃ b, a'.tmps.getD 56 undef = .slice (some ⟨b, 0, none⟩) 11 11 ∧ Has W' b (frTab (tab A B C)) 31 := (hF 56 (by decide +kernel)).1 (by decide)
    exact Tl.st_v 57 _ rfl rfl hC rfl (rn_len33 rfl hb1)
  · exact Tl.st_v 58 _ rfl rfl hC rfl (rn_move rfl rfl)
  · intro v W1 B1 hv
    have v57 : v 57 = .int .i64 11 := hv 57 (by decide)
    have v58 : v 58 = .int .i64 0 := hv 58 (by decide)
    obtain ⟨b, v56, hb⟩ : ∃ b, v 56 = .slice (some ⟨b, 0, none⟩) 11 11 ∧ Has W1 b (frTab (tab A B C)) 31 := hv 56 (by decide)
    have M1 : NmW (frTab (tab A B C)) b 31 w W1 := ⟨hb, B1⟩
    have hlen : (tab A B C).length = 11 := rfl
    generalize tab A B C = L at *
    clear hv hb B1 b1 C1 C2 C3 Z1 Z2 Z3 l1 l2 l3
    simp only [Tl.fill, v57, v58, v56, List.drop_succ_cons, List.drop_zero, wpList]
    simp only [Act.put, List.setIfInBounds_toArray, List.set_cons_succ, List.set_cons_zero]
    go_wp2_with fail
    go_loopw [58] (fun u wr => ∃ k : Nat, k ≤ 11 ∧ u = .int .i64 (k : Int) ∧ NmW (frTab L) b 31 w wr) (fun u _ => 11 - (intOf u).toNat)
    case atStart => exact ⟨0, by omega, rfl, M1⟩
    case round =>
      clear M1
      obtain ⟨k, hk, rfl, M2⟩ := hrel
      by_cases hlt : k < 11
      · have q0 : (k : Int) < 11 := by omega
        obtain ⟨r, hr⟩ : ∃ r, L[k]? = some r := ⟨_, List.getElem?_eq_getElem (by omega)⟩
        obtain ⟨k0, k1, k2, k3, k4, k5⟩ := fr_cells M2.hs hr
        obtain ⟨Y, E, G, K, N, p, R, HM, HR, hR⟩ := fr_calls (GD.out r (List.mem_of_getElem? hr))
        obtain ⟨rE, rG, rK, rN, rp, re⟩ := r
        simp only at k0 k1 k2 k3 k4 k5 HM hR
        clear hr hlen GD
        go_wp2_with fail
        have M3 := M2.alloc (.cells #[.int .i64 rE, .int .i64 rG, .int .i64 rK, .int .i64 rN, .string rp, .int .i64 re] 31)
        have X3 : Has (wr.alloc (.cells #[.int .i64 rE, .int .i64 rG, .int .i64 rK, .int .i64 rN, .string rp, .int .i64 re] 31)) wr.heap.size #[.int .i64 rE, .int .i64 rG, .int .i64 rK, .int .i64 rN, .string rp, .int .i64 re] 31 := Has.new _ _ _ _ rfl
        clear k0 k1 k2 k3 k4 k5 M2
        refine (HM.out _ (ht.below' M3.bl)).mono ?_
        rintro e w4 ⟨rfl, b4⟩
        have M4 := M3.next b4
        have X4 := X3.below b4 X3.lt
        clear b4 M3 X3 HM
        go_wp2_with fail
        refine (HR.out _ (ht.below' M4.bl)).mono ?_
        rintro e w5 ⟨rfl, b5⟩
        have M5 := M4.next b5
        have X5 := X4.below b5 X4.lt
        have M6 := M5.alloc (.cells #[.int .i64 E, .int .i64 G, .int .i64 K, .int .i64 N, .string p] 28)
        have x0 := fun o => (X5.alloc o).cell 0
        have x1 := fun o => (X5.alloc o).cell 1
        have x2 := fun o => (X5.alloc o).cell 2
        have x3 := fun o => (X5.alloc o).cell 3
        have x4 := fun o => (X5.alloc o).cell 4
        have x5 := fun o => (X5.alloc o).cell 5
        clear b5 M4 X4 HR M5 X5
        by_cases h0 : re = 0
        · obtain ⟨rfl, rfl, rfl, rfl, rfl, rfl⟩ := hR h0
          subst h0
          go_wp2_with fail
          go_roundw
          case rel => exact ⟨k + 1, by omega, by rw [show ((k + 1 : Nat) : Int) = (k : Int) + 1 by omega], M6⟩
          case measure => simp [intOf]; omega
        · have q5 : (re == 0) = false := beq_eq_false_iff_ne.2 h0
          clear hR h0
          go_wp2_with fail
          go_roundw
          case rel => exact ⟨k + 1, by omega, by rw [show ((k + 1 : Nat) : Int) = (k : Int) + 1 by omega], M6⟩
          case measure => simp [intOf]; omega
      · obtain rfl : k = 11 := by omega
        have B2 := M2.bl
        clear M2 hlen GD hk hlt
        go_wp2_with fail
        refine Tl.wp_tail_lit (by kernel_rfl) 45 [92, 93, 94, 95, 96, 97, 98, 99, 100, 101, 102, 103, 104, 105, 106, 107, 108, 109, 110, 111, 112, 113, 114, 115, 116, 117, 118, 119, 120, 121, 122, 123, 124, 125, 126, 127, 128, 129, 130, 131, 132, 133, 134, 135, 136] 179 rfl (by kernel_rfl) (fun W => Below w.heap.size w W) oF oF_mono B2.drew
          ⟨fun a' W' hC hF => ?_, fun a' W' hC hF => ?_, fun a' W' hC hF => ?_, fun a' W' hC hF => ?_, fun a' W' hC hF => ?_, fun a' W' hC hF => ?_, fun a' W' hC hF => ?_, fun a' W' hC hF => ?_, fun a' W' hC hF => ?_, fun a' W' hC hF => ?_, fun a' W' hC hF => ?_, fun a' W' hC hF => ?_, fun a' W' hC hF => ?_, fun a' W' hC hF => ?_, fun a' W' hC hF => ?_, fun a' W' hC hF => ?_, fun a' W' hC hF => ?_, fun a' W' hC hF => ?_, fun a' W' hC hF => ?_, fun a' W' hC hF => ?_, fun a' W' hC hF => ?_, fun a' W' hC hF => ?_, fun a' W' hC hF => ?_, fun a' W' hC hF => ?_, fun a' W' hC hF => ?_, fun a' W' hC hF => ?_, fun a' W' hC hF => ?_, fun a' W' hC hF => ?_, fun a' W' hC hF => ?_, fun a' W' hC hF => ?_, fun a' W' hC hF => ?_, fun a' W' hC hF => ?_, fun a' W' hC hF => ?_, fun a' W' hC hF => ?_, fun a' W' hC hF => ?_, fun a' W' hC hF => ?_, fun a' W' hC hF => ?_, fun a' W' hC hF => ?_, fun a' W' hC hF => ?_, fun a' W' hC hF => ?_, fun a' W' hC hF => ?_, fun a' W' hC hF => ?_, fun a' W' hC hF => ?_, fun a' W' hC hF => ?_, fun a' W' hC hF => ?_, trivial⟩ ?_
        · exact Tl.st_v 92 _ rfl rfl hC rfl (rn_move rfl ((hF 7 (by decide +kernel)).2 (by decide)))
        · exact Tl.st_v 93 _ rfl rfl hC rfl (rn_slF (lo := 4) rfl ((hF 92 (by decide +kernel)).1 (by decide)) rfl (by rw [gd_size]; decide))
        · exact Tl.st_v 94 _ rfl rfl hC rfl (rn_add9 rfl rfl ((hF 93 (by decide +kernel)).1 (by decide)) rfl (by decide +kernel))
        · exact Tl.st_v 95 _ rfl rfl hC rfl (rn_move rfl ((hF 7 (by decide +kernel)).2 (by decide)))
        · exact Tl.st_v 96 _ rfl rfl hC rfl (rn_add9 rfl ((hF 95 (by decide +kernel)).1 (by decide)) rfl rfl (by decide +kernel))
        · exact Tl.st_v 97 _ rfl rfl hC rfl (rn_move rfl ((hF 7 (by decide +kernel)).2 (by decide)))
        · exact Tl.st_v 98 _ rfl rfl hC rfl (rn_slT (hi := 18) rfl ((hF 97 (by decide +kernel)).1 (by decide)) rfl (by rw [gd_size]; decide))
        · exact Tl.st_v 99 _ rfl rfl hC rfl (rn_move rfl ((hF 7 (by decide +kernel)).2 (by decide)))
        · exact Tl.st_v 100 _ rfl rfl hC rfl (rn_slT (hi := 17) rfl ((hF 99 (by decide +kernel)).1 (by decide)) rfl (by rw [gd_size]; decide))
        · exact Tl.st_v 101 _ rfl rfl hC rfl (rn_move rfl ((hF 7 (by decide +kernel)).2 (by decide)))
        · exact Tl.st_v 102 _ rfl rfl hC rfl (rn_slF (lo := 5) rfl ((hF 101 (by decide +kernel)).1 (by decide)) rfl (by rw [gd_size]; decide))
        · exact Tl.st_v 103 _ rfl rfl hC rfl (rn_add9 rfl rfl ((hF 102 (by decide +kernel)).1 (by decide)) rfl (by decide +kernel))
        · exact Tl.st_v 104 _ rfl rfl hC rfl (rn_move rfl ((hF 7 (by decide +kernel)).2 (by decide)))
        · exact Tl.st_v 105 _ rfl rfl hC rfl (rn_slT (hi := 8) rfl ((hF 104 (by decide +kernel)).1 (by decide)) rfl (by rw [gd_size]; decide))
        · exact Tl.st_v 106 _ rfl rfl hC rfl (rn_add9 rfl ((hF 105 (by decide +kernel)).1 (by decide)) rfl rfl (by decide +kernel))
        · exact Tl.st_v 107 _ rfl rfl hC rfl (rn_move rfl ((hF 7 (by decide +kernel)).2 (by decide)))
        · exact Tl.st_v 108 _ rfl rfl hC rfl (rn_slF (lo := 9) rfl ((hF 107 (by decide +kernel)).1 (by decide)) rfl (by rw [gd_size]; decide))
        · exact Tl.st_v 109 _ rfl rfl hC rfl (rn_add9 rfl ((hF 106 (by decide +kernel)).1 (by decide)) ((hF 108 (by decide +kernel)).1 (by decide)) rfl (by decide +kernel))
        · exact Tl.st_v 110 _ rfl rfl hC rfl (rn_move rfl ((hF 7 (by decide +kernel)).2 (by decide)))
        · exact Tl.st_v 111 _ rfl rfl hC rfl (rn_slT (hi := 12) rfl ((hF 110 (by decide +kernel)).1 (by decide)) rfl (by rw [gd_size]; decide))
        · exact Tl.st_v 112 _ rfl rfl hC rfl (rn_add9 rfl ((hF 111 (by decide +kernel)).1 (by decide)) rfl rfl (by decide +kernel))
        · exact Tl.st_v 113 _ rfl rfl hC rfl (rn_move rfl ((hF 7 (by decide +kernel)).2 (by decide)))
        · exact Tl.st_v 114 _ rfl rfl hC rfl (rn_slF (lo := 13) rfl ((hF 113 (by decide +kernel)).1 (by decide)) rfl (by rw [gd_size]; decide))
        · exact Tl.st_v 115 _ rfl rfl hC rfl (rn_add9 rfl ((hF 112 (by decide +kernel)).1 (by decide)) ((hF 114 (by decide +kernel)).1 (by decide)) rfl (by decide +kernel))
        · exact Tl.st_v 116 _ rfl rfl hC rfl (rn_move rfl ((hF 7 (by decide +kernel)).2 (by decide)))
        · exact Tl.st_v 117 _ rfl rfl hC rfl (rn_slT (hi := 12) rfl ((hF 116 (by decide +kernel)).1 (by decide)) rfl (by rw [gd_size]; decide))
        · exact Tl.st_v 118 _ rfl rfl hC rfl (rn_add9 rfl ((hF 117 (by decide +kernel)).1 (by decide)) rfl rfl (by decide +kernel))
        · exact Tl.st_v 119 _ rfl rfl hC rfl (rn_move rfl ((hF 7 (by decide +kernel)).2 (by decide)))
        · exact Tl.st_v 120 _ rfl rfl hC rfl (rn_slF (lo := 13) rfl ((hF 119 (by decide +kernel)).1 (by decide)) rfl (by rw [gd_size]; decide))
        · exact Tl.st_v 121 _ rfl rfl hC rfl (rn_add9 rfl ((hF 118 (by decide +kernel)).1 (by decide)) ((hF 120 (by decide +kernel)).1 (by decide)) rfl (by decide +kernel))
        · exact Tl.st_v 122 _ rfl rfl hC rfl (rn_move rfl ((hF 7 (by decide +kernel)).2 (by decide)))
        · exact Tl.st_v 123 _ rfl rfl hC rfl (rn_slT (hi := 13) rfl ((hF 122 (by decide +kernel)).1 (by decide)) rfl (by rw [gd_size]; decide))
        · exact Tl.st_v 124 _ rfl rfl hC rfl (rn_add9 rfl ((hF 123 (by decide +kernel)).1 (by decide)) rfl rfl (by decide +kernel))
        · exact Tl.st_v 125 _ rfl rfl hC rfl (rn_move rfl ((hF 7 (by decide +kernel)).2 (by decide)))
        · exact Tl.st_v 126 _ rfl rfl hC rfl (rn_slF (lo := 14) rfl ((hF 125 (by decide +kernel)).1 (by decide)) rfl (by rw [gd_size]; decide))
        · exact Tl.st_v 127 _ rfl rfl hC rfl (rn_add9 rfl ((hF 124 (by decide +kernel)).1 (by decide)) ((hF 126 (by decide +kernel)).1 (by decide)) rfl (by decide +kernel))
        · exact Tl.st_v 128 _ rfl rfl hC rfl (rn_move rfl ((hF 7 (by decide +kernel)).2 (by decide)))
        · exact Tl.st_v 129 _ rfl rfl hC rfl (rn_slT (hi := 17) rfl ((hF 128 (by decide +kernel)).1 (by decide)) rfl (by rw [gd_size]; decide))
        · exact Tl.st_v 130 _ rfl rfl hC rfl (rn_add9 rfl ((hF 129 (by decide +kernel)).1 (by decide)) rfl rfl (by decide +kernel))
        · exact Tl.st_v 131 _ rfl rfl hC rfl (rn_move rfl ((hF 7 (by decide +kernel)).2 (by decide)))
        · exact Tl.st_v 132 _ rfl rfl hC rfl (rn_slT (hi := 14) rfl ((hF 131 (by decide +kernel)).1 (by decide)) rfl (by rw [gd_size]; decide))
        · exact Tl.st_v 133 _ rfl rfl hC rfl (rn_add9 rfl ((hF 132 (by decide +kernel)).1 (by decide)) rfl rfl (by decide +kernel))
        · refine Tl.st_val 134 (.slice (some ⟨W'.heap.size, 0, none⟩) 13 13) rfl (Tl.wanted_none rfl) (rn_bs38 rfl rfl rfl ((hF 94 (by decide +kernel)).1 (by decide)) ((hF 96 (by decide +kernel)).1 (by decide)) ((hF 98 (by decide +kernel)).1 (by decide)) ((hF 100 (by decide +kernel)).1 (by decide)) ((hF 103 (by decide +kernel)).1 (by decide)) ((hF 109 (by decide +kernel)).1 (by decide)) ((hF 115 (by decide +kernel)).1 (by decide)) ((hF 121 (by decide +kernel)).1 (by decide)) ((hF 127 (by decide +kernel)).1 (by decide)) ((hF 130 (by decide +kernel)).1 (by decide)) ((hF 133 (by decide +kernel)).1 (by decide))) (belowAlloc hC _) ((Below.refl _ _).alloc (Nat.le_refl _) _) ?_
          exact ⟨W'.heap.size, rfl, Has.new _ _ _ _ rfl⟩
        · obtain ⟨b, hb1, hb2⟩ : ∃ b, a'.tmps.getD 134 undef = .slice (some ⟨b, 0, none⟩) 13 13 ∧ Has W' b (strTab bads) 9 := (hF 134 (by decide +kernel)).1 (by decide)
          exact Tl.st_v 135 _ rfl rfl hC rfl (rn_len38 rfl hb1)
        · exact Tl.st_v 136 _ rfl rfl hC rfl (rn_move rfl rfl)
        · intro v W1 B1 hv
          have v135 : v 135 = .int .i64 13 := hv 135 (by decide)
          have v136 : v 136 = .int .i64 0 := hv 136 (by decide)
          obtain ⟨b, v134, hb⟩ : ∃ b, v 134 = .slice (some ⟨b, 0, none⟩) 13 13 ∧ Has W1 b (strTab bads) 9 := hv 134 (by decide)
          have M1 : NmW (strTab bads) b 9 w W1 := ⟨hb, B1⟩
          have hlen : bads.length = 13 := rfl
          have BD : Hid (∀ k t, bads[k]? = some t → rdOk (t ++ ofBs (Sha.digest (bs t))) = false ∧ t.size ≤ 100) := fun k t h => bads_bad h
          generalize bads = L at *
          clear hv hb B1
          simp only [Tl.fill, v135, v136, v134, List.drop_succ_cons, List.drop_zero, wpList]
          simp only [Act.put, List.setIfInBounds_toArray, List.set_cons_succ, List.set_cons_zero]
          go_wp2_with fail
          go_loopw [136] (fun u wr => ∃ k : Nat, k ≤ 13 ∧ u = .int .i64 (k : Int) ∧ NmW (strTab L) b 9 w wr) (fun u _ => 13 - (intOf u).toNat)
          case atStart => exact ⟨0, by omega, rfl, M1⟩
          case round =>
            clear M1 B2
            obtain ⟨k, hk, rfl, M2⟩ := hrel
            by_cases hlt : k < 13
            · have q0 : (k : Int) < 13 := by omega
              obtain ⟨t, hr⟩ : ∃ t, L[k]? = some t := ⟨_, List.getElem?_eq_getElem (by omega)⟩
              have k0 := str_cell M2.hs hr
              obtain ⟨hb1, hb2⟩ := BD.out k t hr
              have HS : Hid (∀ W, Tabs W → Calls Tryd.prog 11 #[.string t] W fun e w' => e = .returned (.string (ofBs (Sha.digest (bs t)))) ∧ Below W.heap.size W w') := fun W hW => sum_any W hW t (by omega)
              have q1 : ¬ 9223372036854775807 < t.size + (ofBs (Sha.digest (bs t))).size := by rw [ofBs_size, digest_length]; omega
              generalize ofBs (Sha.digest (bs t)) = D at *
              obtain ⟨E, G, K, N, p, HR⟩ := read_fails (t ++ D) hb1
              clear hr hlen BD hb1 hb2
              go_wp2_with fail
              refine (HS.out _ (ht.below' M2.bl)).mono ?_
              rintro e w4 ⟨rfl, b4⟩
              have M4 := M2.next b4
              clear b4 M2 HS k0
              go_wp2_with fail
              refine (HR.out _ (ht.below' M4.bl)).mono ?_
              rintro e w5 ⟨rfl, b5⟩
              have M5 := M4.next b5
              have M6 := M5.alloc (.cells #[.int .i64 E, .int .i64 G, .int .i64 K, .int .i64 N, .string p] 28)
              clear b5 M4 M5 HR
              go_wp2_with fail
              go_roundw
              case rel =>
                (repeat apply Exists.intro)
                exact ⟨⟨k + 1, by omega, by rw [show ((k + 1 : Nat) : Int) = (k : Int) + 1 by omega], M6⟩, rfl⟩
              case measure => simp [intOf]; omega
            · obtain rfl : k = 13 := by omega
              have B3 := M2.bl
              clear M2 hlen BD hk hlt
              obtain ⟨X, D, hx⟩ := ex_is
              have HS1 : Hid (∀ W, Tabs W → Calls Tryd.prog 11 #[.string ((⟨#[109, 97, 110, 49, 0, 0, 0, 1, 0, 0, 0, 2, 2, 3, 0, 0, 0, 1, 120]⟩ : ByteArray).extract 1 19)] W fun e w' => e = .returned (.string (ofBs (Sha.digest (bs (gd.extract 1 gd.size))))) ∧ Below W.heap.size W w') := fun W hW => sum_any W hW (gd.extract 1 gd.size) (by decide +kernel)
              obtain ⟨E, G, K, N, p, HR1⟩ := read_fails _ rd_wrong
              have q1 : ¬ 9223372036854775807 < 19 + (ofBs (Sha.digest (bs (gd.extract 1 gd.size)))).size := by rw [ofBs_size, digest_length]; decide
              generalize ofBs (Sha.digest (bs (gd.extract 1 gd.size))) = D1 at *
              have HR1' : Hid (∀ W, Tabs W → Calls Tryd.prog 10 #[.string ((⟨#[109, 97, 110, 49, 0, 0, 0, 1, 0, 0, 0, 2, 2, 3, 0, 0, 0, 1, 120]⟩ : ByteArray) ++ D1)] W fun e w' => e = .returned (.tuple #[.agg #[.int .i64 E, .int .i64 G, .int .i64 K, .int .i64 N, .string p], .int .i64 4]) ∧ Below W.heap.size W w') := HR1.out
              have HS2 : Hid (∀ W, Tabs W → Calls Tryd.prog 11 #[.string ⟨#[109, 97, 110, 49, 0, 0, 0, 1, 0, 0, 0, 2, 2, 3, 0, 0, 0, 1, 120]⟩] W fun e w' => e = .returned (.string D) ∧ Below W.heap.size W w') := fun W hW => by
                have := sum_any W hW gd (by decide)
                rw [hx.sum] at this
                exact this
              have HR2 : Hid (∀ W, Tabs W → Calls Tryd.prog 10 #[.string ((⟨#[109, 97, 110, 49, 0, 0, 0, 1, 0, 0, 0, 2, 2, 3, 0, 0, 0, 1, 120]⟩ : ByteArray) ++ D)] W fun e w' => e = .returned (.tuple #[.agg #[.int .i64 1, .int .i64 2, .int .i64 2, .int .i64 3, .string ⟨#[120]⟩], .int .i64 0]) ∧ Below W.heap.size W w') := fun W hW => by
                have := read_any (gd ++ D) W hW
                rw [hx.all, rdV_yes hx.is, ← hx.all] at this
                exact this
              have q2 : ¬ 9223372036854775807 < 19 + D.size := by rw [← hx.sum, ofBs_size, digest_length]; decide
              clear hx HR1
              go_wp2_with fail
              refine (HS1.out _ (ht.below' B3)).mono ?_
              rintro e w4 ⟨rfl, b4⟩
              have B4 := belowCall B3 b4
              clear b4 B3 HS1
              go_wp2_with fail
              refine (HR1'.out _ (ht.below' B4)).mono ?_
              rintro e w5 ⟨rfl, b5⟩
              have B5 := belowAlloc (belowCall B4 b5) (.cells #[.int .i64 E, .int .i64 G, .int .i64 K, .int .i64 N, .string p] 28)
              clear b5 B4 HR1'
              go_wp2_with fail
              refine (HS2.out _ (ht.below' B5)).mono ?_
              rintro e w6 ⟨rfl, b6⟩
              have B6 := belowCall B5 b6
              clear b6 B5 HS2
              go_wp2_with fail
              refine (HR2.out _ (ht.below' B6)).mono ?_
              rintro e w7 ⟨rfl, b7⟩
              have M7 : NmW (frc 1 2 2 3 ⟨#[120]⟩) w7.heap.size 28 w (w7.alloc (.cells #[.int .i64 1, .int .i64 2, .int .i64 2, .int .i64 3, .string ⟨#[120]⟩] 28)) := ⟨Has.new _ _ _ _ rfl, belowAlloc (belowCall B6 b7) _⟩
              clear b7 B6 HR2
              go_wp2_with fail
              refine Tl.wp_tail_lit (by kernel_rfl) 12 [168, 169, 170, 171, 172, 173, 174, 175, 176, 177, 178, 0] 179 rfl (by kernel_rfl) (NmW (frc 1 2 2 3 ⟨#[120]⟩) w7.heap.size 28 w) (fun dd v _ => v = lv dd) (fun _ _ _ _ h _ => h) (⟨M7.hs.drew, M7.bl.drew⟩)
                ⟨fun a' W' hC hF => ?_, fun a' W' hC hF => ?_, fun a' W' hC hF => ?_, fun a' W' hC hF => ?_, fun a' W' hC hF => ?_, fun a' W' hC hF => ?_, fun a' W' hC hF => ?_, fun a' W' hC hF => ?_, fun a' W' hC hF => ?_, fun a' W' hC hF => ?_, fun a' W' hC hF => ?_, fun a' W' hC hF => ?_, trivial⟩ ?_
              · exact Tl.st_v 168 _ rfl rfl hC rfl (rn_move rfl ((hF 13 (by decide +kernel)).2 (by decide)))
              · exact Tl.st_v 169 _ rfl rfl hC rfl (rn_eql30 rfl ((hF 168 (by decide +kernel)).1 (by decide)) rfl )
              · exact Tl.st_v 170 _ rfl rfl hC rfl (rn_move rfl ((hF 169 (by decide +kernel)).1 (by decide)))
              · exact Tl.st_val 171 _ rfl (Tl.wanted_is rfl rfl ((hF 170 (by decide +kernel)).1 (by decide))) (rn_move rfl ((hF 15 (by decide +kernel)).2 (by decide))) hC (Below.refl _ _) rfl
              · exact Tl.st_val 172 _ rfl (Tl.wanted_is rfl rfl ((hF 170 (by decide +kernel)).1 (by decide))) (rn_eql30 rfl ((hF 171 (by decide +kernel)).1 (by decide)) rfl ) hC (Below.refl _ _) rfl
              · exact Tl.st_v 173 _ rfl rfl hC rfl (rn_pickT rfl ((hF 170 (by decide +kernel)).1 (by decide)) ((hF 172 (by decide +kernel)).1 (by decide)))
              · exact Tl.st_v 174 _ rfl rfl hC rfl (rn_move rfl ((hF 173 (by decide +kernel)).1 (by decide)))
              · exact Tl.st_val 175 _ rfl (Tl.wanted_is rfl rfl ((hF 174 (by decide +kernel)).1 (by decide))) (rn_load28 rfl ((hF 14 (by decide +kernel)).2 (by decide)) hC.hs) hC (Below.refl _ _) rfl
              · exact Tl.st_call 176 8 _ rfl (Tl.wanted_is rfl rfl ((hF 174 (by decide +kernel)).1 (by decide))) (rn_call5 rfl rfl rfl rfl rfl rfl rfl (enter8 _)) ((of_any 1 2 2 3 ⟨#[120]⟩ W').mono fun e w'' h => ⟨_, h.1, hC.next h.2, h.2, rfl⟩)
              · exact Tl.st_val 177 _ rfl (Tl.wanted_is rfl rfl ((hF 174 (by decide +kernel)).1 (by decide))) (rn_eql28 rfl ((hF 175 (by decide +kernel)).1 (by decide)) ((hF 176 (by decide +kernel)).1 (by decide)) ) hC (Below.refl _ _) rfl
              · exact Tl.st_v 178 _ rfl rfl hC rfl (rn_pickT rfl ((hF 174 (by decide +kernel)).1 (by decide)) ((hF 177 (by decide +kernel)).1 (by decide)))
              · exact Tl.st_v 0 _ rfl rfl hC rfl (rn_assign rfl ((hF 178 (by decide +kernel)).1 (by decide)))
              · intro v W8 M8 hv
                have v0 : v 0 = .bool true := hv 0 (by decide)
                simp only [Tl.fill, v0, List.drop_succ_cons, List.drop_zero, wpList]
                simp only [Act.put, List.setIfInBounds_toArray, List.set_cons_succ, List.set_cons_zero]
                go_wp2_with fail
                go_ret
                exact ⟨rfl, M8.bl⟩
theorem names_any (w : World) (ht : Tabs w) : Calls Tryd.prog 3 #[] w fun e w' => e = .returned (.bool true) ∧ Below w.heap.size w w' :=
  names_aux _ _ _ rfl rfl rfl _ _ _ rfl rfl rfl w ht
end Go.Proofs.YtnepfllbfagfnaaDoor
