/- The law's own copy of a state. -/
import Derived.Test.YtknddbmnciodaaaAdd
import Derived.Test.YtknddbmnciodaaaOwnK
import Derived.Deep.RegionHeld3
import Derived.Deep.RegionLaw
namespace Go.Proofs.Ytknddbmnciodaaa
open Go.RowKit
open Ix
set_option linter.unusedVariables false
theorem own_sn {W : World} {b n : Nat} {e : TypeId} {v : Value} {l : List Snp} (h : W.ownsRow b e 3 v n (l.flatMap sn3)) : ∃ A cap, v = .slice A l.length cap ∧ n = l.length ∧ Sn W A l := by
  have hn : n = l.length := by have := h.1; rw [flat_len sn3 3 (fun _ => rfl)] at this; omega
  subst hn
  rcases h.2 with ⟨h1, h2⟩ | ⟨g, cap, cur, hv, hbg, hh, _⟩
  · have : l = [] := List.length_eq_zero_iff.1 h2
    subst this
    exact ⟨none, 0, h1, rfl, Sn.nil _ _⟩
  · subst hv
    refine ⟨_, cap, rfl, rfl, fun j hj => ?_⟩
    have f := own_rw (f := sn3) (fun _ => rfl) h j _ (get_of default hj)
    refine ⟨g, 0, rfl, (Array.getElem?_eq_some_iff.1 hh).1, ?_, ?_, ?_⟩
    · rw [Nat.zero_add]; exact (f 0 _ rfl).1
    · rw [Nat.zero_add]; exact (f 1 _ rfl).1
    · rw [Nat.zero_add]; exact (f 2 _ rfl).1
/-- append of whatever row to a row of this call's own that is empty yet -/
theorem app_onto {P : Program} {w : World} {base g cap : Nat} {t ty e : TypeId} {i : TypeInfo} {z : Value} {size bytes : Nat} (ht : P.underlying t = some (.slice e)) (hi : P.info? e = some i) (hz : i.zero = some z)
    (hsize : i.size = size) (hby : i.bytes = bytes) (hzs : z.cells.size = size) (hsz : 0 < size) (hown : w.ownsRow base e size (.slice (some ⟨g, 0, none⟩) 0 cap) 0 []) (hbase : base ≤ w.heap.size)
    (A : Option Addr) (m c : Nat) (news : List Value) (hl : news.length = m * size) (hsrc : 0 < m → ∃ a, A = some a ∧ ∀ j u, news[j]? = some u → w.cell? (a.add j) = some u) (h1 : ∀ u ∈ news, u.oneCell' = true)
    (h63 : m ≤ maxLen) (hbytes : m * bytes ≤ 140737488355328) :
    ∃ v' w', (Builtin.append_ #[t, t] ty #[.slice (some ⟨g, 0, none⟩) 0 cap, .slice A m c]).run P w = .ok v' w' ∧ w'.ownsRow base e size v' m news ∧ w.grownBy w' (some g) := by
  by_cases h0 : m = 0
  · subst h0
    obtain rfl : news = [] := List.eq_nil_of_length_eq_zero (by rw [hl]; simp)
    refine ⟨.slice (some ⟨g, 0, none⟩) 0 cap, w, ?_, hown, ⟨rfl, rfl, rfl, Nat.le_refl _, fun _ _ _ => rfl⟩⟩
    cases A with
    | none => simp [Builtin.append_, run_underlying ht, sizeOf, typeInfo, hi, Builtin.lenOf, Builtin.firstCells, storeCells]
    | some a =>
      have hf := run_firstCells_some (P := P) w i.size 0 a 0 c [] (by simp) (fun j u hj => by simp at hj)
      simp [Builtin.append_, run_underlying ht, sizeOf, typeInfo, hi, Builtin.lenOf, hf, storeCells]
  · obtain ⟨a, rfl, hn⟩ := hsrc (by omega)
    obtain ⟨v', w', r1, r2, r3, _⟩ := run_append_own (P := P) w base t ty e i z size bytes ht hi hz hsize hby hzs hsz _ 0 [] hown a m c news hl hn h1 (by omega) (by rw [Nat.zero_add]; exact hbytes) hbase
    rw [Nat.zero_add] at r2
    exact ⟨v', w', r1, by simpa using r2, r3⟩
/-- an operation as one step of a region that draws -/
theorem step_val {P : Program} {ops : Array Oper} {o : Oper} {a : Act} {w w' : World} {v : Value} {K : Act → World → Prop} {Q : Exit → Act → World → Prop} {E : Prop}
    (hg : o.guard = none) (hr : (execOp a.eval o).run P w = .ok (.value v) w') (hK : K (a.put o.dst v) w') : if Region.wanted o (yielded ops a.tmps) = true then Oper.wp P o a w K Q else E := by
  have hw : Region.wanted o (yielded ops a.tmps) = true := by simp [Region.wanted, hg]
  rw [if_pos hw]
  unfold Oper.wp
  rw [hr]
  exact hK
section
variable {ev : Operand → Value} {o : Oper} {w w' : World} {x y : Operand} {u v v' : Value} {t : TypeId}
theorem rn_app24 (ho : o.op = .call { callee := .builtin .append, args := #[x, y], argTypes := #[24, 24] }) (hx : ev x = v) (hy : ev y = u) (ht : o.type = t) (hr : (Builtin.append_ #[24, 24] t #[v, u]).run Try.prog w = .ok v' w') : (execOp ev o).run Try.prog w = .ok (.value v') w' := by
  subst ht
  simp [execOp, ho, hx, hy, resolve, invoke, builtin, hr, Result.andThen]
end
/-- rows that were made, empty yet -/
theorem made_own {w : World} {g e size cap : Nat} {cs : Array Value} (h : Has w g cs e) (hc : cs.size = cap * size) (hm : cap ≤ maxLen) {base : Nat} (hb : base ≤ g) : w.ownsRow base e size (.slice (some ⟨g, 0, none⟩) 0 cap) 0 [] :=
  ⟨by simp, .inr ⟨g, cap, cs, rfl, hb, h, Nat.zero_le _, hm, hc, by simp⟩⟩
theorem makes25 (n : Nat) (hn : n ≤ 1000000) : ∃ zs : Array Value, zs.size = n ∧ ∀ w : World, (Instr.makeSlice 25 (.int .i64 0) (.int .i64 (n : Int))).run Try.prog w = .ok (.slice (some ⟨w.heap.size, 0, none⟩) 0 n) (w.alloc (.cells zs 9)) := by
  obtain ⟨i, hi, h1, h2, h3⟩ := info_parts info9z
  refine ⟨madeCells (Value.string ⟨#[]⟩).cells (n * i.size), ?_, fun w => ?_⟩
  · simp [madeCells, h2]
  · rw [run_make w 25 9 i _ Try.underlying25 hi h1 .i64 .i64 0 (n : Int) (by omega) (by omega) (by rw [h3]; omega) (by omega)]
    simp
theorem makes26 (n : Nat) (hn : n ≤ 1000000) : ∃ zs : Array Value, zs.size = n * 3 ∧ ∀ w : World, (Instr.makeSlice 26 (.int .i64 0) (.int .i64 (n : Int))).run Try.prog w = .ok (.slice (some ⟨w.heap.size, 0, none⟩) 0 n) (w.alloc (.cells zs 37)) := by
  obtain ⟨i, hi, h1, h2, h3⟩ := info_parts info37z
  refine ⟨madeCells (Value.agg #[.string ⟨#[]⟩, .int .i64 0, .int .i64 0]).cells (n * i.size), ?_, fun w => ?_⟩
  · simp [madeCells, h2]
  · rw [run_make w 26 37 i _ Try.underlying26 hi h1 .i64 .i64 0 (n : Int) (by omega) (by omega) (by rw [h3]; omega) (by omega)]
    simp
/-- what a row reads, cell by cell, from an address on -/
theorem tx_src {w : World} {A : Option Addr} {l : List ByteArray} (h : Tx w A l) : 0 < l.length → ∃ a, A = some a ∧ ∀ j u, (l.map Value.string)[j]? = some u → w.cell? (a.add j) = some u := fun h0 => by
  obtain ⟨g, o, e, _, _⟩ := h 0 h0
  refine ⟨_, e, fun j u hu => ?_⟩
  rw [List.getElem?_map] at hu
  have hj : j < l.length := by
    rcases Nat.lt_or_ge j l.length with hj | hj
    · exact hj
    · rw [List.getElem?_eq_none hj] at hu; cases hu
  obtain ⟨g', o', e', _, hc⟩ := h j hj
  rw [e] at e'
  cases e'
  rw [get_of ⟨#[]⟩ hj] at hu
  cases hu
  rw [Go.WideShapes.add_plain]; exact hc
theorem ps_src {w : World} {A : Option Addr} {l : List Pl} (h : Ps w A l) : 0 < l.length → ∃ a, A = some a ∧ ∀ j u, (l.flatMap pl3)[j]? = some u → w.cell? (a.add j) = some u := fun h0 => by
  obtain ⟨g, o, e, _, _⟩ := h 0 h0
  refine ⟨_, e, fun j u hu => ?_⟩
  have hj := (List.getElem?_eq_some_iff.1 hu).1
  rw [flat_len pl3 3 (fun _ => rfl)] at hj
  have hq : j / 3 < l.length := by omega
  obtain ⟨g', o', e', _, h1, h2, h3⟩ := h (j / 3) hq
  rw [e] at e'
  cases e'
  have hg := get_of (default : Pl) hq
  generalize l.getD (j / 3) default = x at *
  have hf := flat_get pl3 3 (fun _ => rfl) l (j / 3) x hg (j % 3)
  rw [show j / 3 * 3 + j % 3 = j by omega] at hf
  rw [Go.WideShapes.add_plain]
  have h3' : j % 3 < 3 := Nat.mod_lt _ (by decide)
  have hx : ∀ v, (pl3 x)[j % 3]? = some v → u = v := fun v hv => by
    have := hf v hv
    rw [this] at hu
    exact (Option.some.inj hu).symm
  rcases (by omega : j % 3 = 0 ∨ j % 3 = 1 ∨ j % 3 = 2) with e3 | e3 | e3 <;> rw [e3] at hx
  · rw [hx _ rfl, show j = j / 3 * 3 by omega]; simpa using h1
  · rw [hx _ rfl, show o + j = o + j / 3 * 3 + 1 by omega]; exact h2
  · rw [hx _ rfl, show o + j = o + j / 3 * 3 + 2 by omega]; exact h3
theorem sn_src {w : World} {A : Option Addr} {l : List Snp} (h : Sn w A l) : 0 < l.length → ∃ a, A = some a ∧ ∀ j u, (l.flatMap sn3)[j]? = some u → w.cell? (a.add j) = some u := fun h0 => by
  obtain ⟨g, o, e, _, _⟩ := h 0 h0
  refine ⟨_, e, fun j u hu => ?_⟩
  have hj := (List.getElem?_eq_some_iff.1 hu).1
  rw [flat_len sn3 3 (fun _ => rfl)] at hj
  have hq : j / 3 < l.length := by omega
  obtain ⟨g', o', e', _, h1, h2, h3⟩ := h (j / 3) hq
  rw [e] at e'
  cases e'
  have hg := get_of (default : Snp) hq
  generalize l.getD (j / 3) default = x at *
  have hf := flat_get sn3 3 (fun _ => rfl) l (j / 3) x hg (j % 3)
  rw [show j / 3 * 3 + j % 3 = j by omega] at hf
  rw [Go.WideShapes.add_plain]
  have hx : ∀ v, (sn3 x)[j % 3]? = some v → u = v := fun v hv => by
    have := hf v hv
    rw [this] at hu
    exact (Option.some.inj hu).symm
  rcases (by omega : j % 3 = 0 ∨ j % 3 = 1 ∨ j % 3 = 2) with e3 | e3 | e3 <;> rw [e3] at hx
  · rw [hx _ rfl, show o + j = o + j / 3 * 3 by omega]; exact h1
  · rw [hx _ rfl, show o + j = o + j / 3 * 3 + 1 by omega]; exact h2
  · rw [hx _ rfl, show o + j = o + j / 3 * 3 + 2 by omega]; exact h3
theorem own_set {w : World} {lo n b o : Nat} {e t : TypeId} {m : Nat} {v u : Value} {xs : List Value} {cs : Array Value} (h : w.ownsRow lo e m v n xs) (hb : Has w b cs t) (ht : t ≠ e) : (w.setCell ⟨b, o, none⟩ u).ownsRow lo e m v n xs := by
  have hne := own_has h hb ht
  refine ⟨h.1, ?_⟩
  rcases h.2 with hn | ⟨g, cap, cur, rfl, h1, h2, rest⟩
  · exact .inl hn
  · refine .inr ⟨g, cap, cur, rfl, h1, ?_, rest⟩
    have hgb : g ≠ b := fun e => hne (by rw [e]; simp [Value.ownBlock])
    exact (show Has (w.setCell ⟨b, o, none⟩ u) g cur e from Has.other h2 _ _ hgb)
set_option maxRecDepth 20000 in
set_option maxHeartbeats 16000000 in
theorem copied_any (s : St) (a0 a1 a2 : Option Addr) (c0 c1 c2 : Nat) (hn : s.C.length ≤ 100000) (hn2 : s.P.length ≤ 100000) (hn3 : s.sn.length ≤ 100000) (w : World) (hS : Sn w a0 s.sn) (hC : Tx w a1 s.C) (hP : Ps w a2 s.P) :
    Calls Try.prog 6 #[.agg (stV s a0 a1 a2 c0 c1 c2)] w fun e w' => ∃ A0 A1 A2 e0 e1 e2, e = .returned (.agg (stV s A0 A1 A2 e0 e1 e2)) ∧ Sn w' A0 s.sn ∧ Tx w' A1 s.C ∧ Ps w' A2 s.P ∧ RowKit.Below w.heap.size w w' := by
  obtain ⟨i9, hi9, hx0, hx1, hx2⟩ := info_parts info9z
  obtain ⟨i37, hi37, hy0, hy1, hy2⟩ := info_parts info37z
  obtain ⟨i68, hi68, hz0, hz1, hz2⟩ := info_parts info68z
  obtain ⟨b, hb⟩ : ∃ b, b = w.heap.size := ⟨_, rfl⟩
  obtain ⟨w1, hw1⟩ : ∃ w1, w1 = (w.alloc (.cells (stV s a0 a1 a2 c0 c1 c2) 28)).alloc (.cells stZ 28) := ⟨_, rfl⟩
  have hB : RowKit.Below w.heap.size w w1 := by rw [hw1]; exact ((RowKit.Below.refl _ w).alloc (Nat.le_refl _) _).alloc (by simp) _
  have n1 : Has w1 b (stV s a0 a1 a2 c0 c1 c2) 28 := by rw [hw1]; exact (Has.new w _ _ _ hb).alloc _
  have n2 : Has w1 (b + 1) stZ 28 := by rw [hw1]; exact Has.new _ _ _ _ (by simp [hb])
  have HS := hid (fun W (hW : RowKit.Below w.heap.size w W) => hS.below hW)
  have HC := hid (fun W (hW : RowKit.Below w.heap.size w W) => hC.below hW)
  have HP := hid (fun W (hW : RowKit.Below w.heap.size w W) => hP.below hW)
  have HB := hid hB
  have HBW := hid hb
  have HN1 := hid n1
  have HN2 := hid n2
  have k3 : w1.cell? ⟨b, 3, none⟩ = some (.slice a0 s.sn.length c0) := by rw [n1.cell]; rfl
  -- the snapshots
  obtain ⟨q, hq⟩ : ∃ q, q = w1.heap.size := ⟨_, rfl⟩
  obtain ⟨w2, hw2⟩ : ∃ w2, w2 = w1.alloc (.cells #[] 68) := ⟨_, rfl⟩
  have hb2 : RowKit.Below w1.heap.size w1 w2 := by rw [hw2]; exact (RowKit.Below.refl _ _).alloc (Nat.le_refl _) _
  have hq2 : Has w2 q #[] 68 := by rw [hw2]; exact Has.new _ _ _ _ hq
  have l3 : w2.cell? ⟨b, 3, none⟩ = some (.slice a0 s.sn.length c0) := by rw [(n1.below hb2 n1.lt).cell]; rfl
  have hA : ∀ ty, ∃ v' w', (Builtin.append_ #[24, 24] ty #[.slice (some ⟨q, 0, none⟩) 0 0, .slice a0 s.sn.length c0]).run Try.prog w2 = .ok v' w' ∧ w'.ownsRow w1.heap.size 68 3 v' s.sn.length (s.sn.flatMap sn3) ∧ w2.grownBy w' (some q) := fun ty =>
    app_onto Try.underlying24 hi68 hz0 hz1 hz2 rfl (by decide) (made_own (size := 3) hq2 rfl (Nat.zero_le _) (by omega)) hb2.size a0 s.sn.length c0 _ (flat_len sn3 3 (fun _ => rfl) _) (sn_src (HS.out w2 (hB.trans (hb2.mono hB.size)))) (by
      intro u hu
      obtain ⟨x, _, hx⟩ := List.mem_flatMap.1 hu
      unfold sn3 at hx
      rcases (by simpa using hx : u = _ ∨ u = _ ∨ u = _) with rfl | rfl | rfl <;> rfl) (by unfold maxLen; omega) (by omega)
  obtain ⟨v3, w3, hr3, ho3, hg3⟩ := hA 24
  obtain ⟨A0, e0, rfl, -, -⟩ := own_sn ho3
  have hb3 : RowKit.Below w1.heap.size w1 w3 := hb2.grown hg3 hb2.size (fun j hj => by cases hj; omega)
  have n3 := n1.below hb3 n1.lt
  have c3 : w3.cell? ⟨b, 3, none⟩ = some (.slice a0 s.sn.length c0) := by rw [n3.cell]; rfl
  have f3 := n3.frozen 3
  obtain ⟨w4, hw4⟩ : ∃ w4, w4 = w3.setCell ⟨b, 3, none⟩ (.slice A0 s.sn.length e0) := ⟨_, rfl⟩
  have n4 : Has w4 b (stV s A0 a1 a2 e0 c1 c2) 28 := by rw [hw4]; exact n3.set 3 _
  have o4 : w4.ownsRow w1.heap.size 68 3 (.slice A0 s.sn.length e0) s.sn.length (s.sn.flatMap sn3) := by rw [hw4]; exact own_set ho3 n3 (by decide)
  have m4 : Has w4 (b + 1) stZ 28 := by rw [hw4]; exact (n2.below hb3 n2.lt).other _ _ (by simp)
  have b4 : RowKit.Below w.heap.size w w4 := by rw [hw4]; exact below_set (hB.trans (hb3.mono hB.size)) (show w.heap.size ≤ b by omega) _
  have k4 : w4.cell? ⟨b, 4, none⟩ = some (.slice a1 s.C.length c1) := by rw [n4.cell]; rfl
  have HO4 := hid o4
  have HM4 := hid m4
  have HB4 := hid b4
  have HN4 := hid n4
  have HSZ := hid (show w1.heap.size ≤ w4.heap.size by rw [hw4]; simpa using hb3.size)
  have HQ1 := hid (show b + 1 < w1.heap.size from n2.lt)
  rw [hw2, hq] at hr3
  rw [hw2] at l3
  clear hB n1 n2 hC hP hS hA ho3 hg3 hb3 n3 hb2 hq2 hw2 hq o4 m4 b4 n4
  change w1 = (w.alloc (.cells #[.int .i64 s.k, .int .i64 s.n, .int .i64 s.nx, .slice a0 s.sn.length c0, .slice a1 s.C.length c1, .slice a2 s.P.length c2] 28)).alloc (.cells #[.int .i64 0, .int .i64 0, .int .i64 0, .slice none 0 0, .slice none 0 0, .slice none 0 0] 28) at hw1
  show Calls Try.prog 6 #[.agg #[.int .i64 s.k, .int .i64 s.n, .int .i64 s.nx, .slice a0 s.sn.length c0, .slice a1 s.C.length c1, .slice a2 s.P.length c2]] w _
  generalize hlC : s.C.length = nC at *
  generalize hlP : s.P.length = nP at *
  generalize hlS : s.sn.length = nS at *
  have HLC := hid hlC
  have HLP := hid hlP
  have HLS := hid hlS
  clear hlC hlP hlS
  obtain ⟨zs, hzs, hmk⟩ := makes25 (nC + 9) (by omega)
  obtain ⟨zt, hzt, hmk2⟩ := makes26 (nP + 9) (by omega)
  rw [show ((nC + 9 : Nat) : Int) = (nC : Int) + 9 by omega] at hmk
  rw [show ((nP + 9 : Nat) : Int) = (nP : Int) + 9 by omega] at hmk2
  have wk : IntKind.i64.wrap ((nC : Int) + 9) = (nC : Int) + 9 := by rw [IntKind.wrap_i64]; omega
  have wk2 : IntKind.i64.wrap ((nP : Int) + 9) = (nP : Int) + 9 := by rw [IntKind.wrap_i64]; omega
  go_enter Try.func6, Try.ntmps6
  go_upto_region 1 with fail
  rw [← hw1, ← hb]
  clear hw1 hb
  go_upto_region 2 with (at_builtin; go_loud (refine wpList_val rfl (rn_app24 rfl rfl rfl rfl hr3) ?_))
  rw [← hw4]
  clear hw4 hr3 c3 f3 l3
  obtain ⟨w5, hw5⟩ : ∃ w5, w5 = (w4.alloc (.cells zs 9)).drew := ⟨_, rfl⟩
  obtain ⟨q5, hq5⟩ : ∃ q5, q5 = w4.heap.size := ⟨_, rfl⟩
  have hb5 : RowKit.Below w4.heap.size w4 w5 := by rw [hw5]; exact ((RowKit.Below.refl _ w4).alloc (Nat.le_refl _) _).drew
  have hq5' : Has w5 q5 zs 9 := by rw [hw5]; exact Has.new w4 _ _ _ hq5
  have hA5 : ∀ ty, ∃ v' w', (Builtin.append_ #[25, 25] ty #[.slice (some ⟨q5, 0, none⟩) 0 (nC + 9), .slice a1 nC c1]).run Try.prog w5 = .ok v' w' ∧ w'.ownsRow w4.heap.size 9 1 v' nC (s.C.map Value.string) ∧ w5.grownBy w' (some q5) := fun ty =>
    app_onto Try.underlying25 hi9 hx0 hx1 hx2 rfl (by decide) (made_own (size := 1) hq5' (by omega) (by unfold maxLen; omega) (by omega)) hb5.size a1 nC c1 _ (by rw [List.length_map, HLC.out]; omega) (by
      rw [← HLC.out]
      exact tx_src (HC.out w5 (HB4.out.trans (hb5.mono HB4.out.size)))) (by
      intro u hu
      obtain ⟨x, _, rfl⟩ := List.mem_map.1 hu
      rfl) (by unfold maxLen; omega) (by omega)
  obtain ⟨v6, w6, hr6, ho6, hg6⟩ := hA5 25
  have hb6 : RowKit.Below w4.heap.size w4 w6 := hb5.grown hg6 hb5.size (fun j hj => by cases hj; omega)
  have n6 := HN4.out.below hb6 HN4.out.lt
  have c6 : w6.cell? ⟨b, 4, none⟩ = some (.slice a1 nC c1) := by rw [n6.cell]; unfold stV; rw [HLC.out]; rfl
  have f6 := n6.frozen 4
  obtain ⟨A1, e1, hv6, -, -⟩ := own_tx ho6
  rw [HLC.out] at hv6
  subst hv6
  have c5 : (w4.alloc (.cells zs 9)).cell? ⟨b, 4, none⟩ = some (.slice a1 nC c1) := by rw [(HN4.out.below ((RowKit.Below.refl _ w4).alloc (Nat.le_refl _) _) HN4.out.lt).cell]; unfold stV; rw [HLC.out]; rfl
  obtain ⟨w7, hw7⟩ : ∃ w7, w7 = w6.setCell ⟨b, 4, none⟩ (.slice A1 nC e1) := ⟨_, rfl⟩
  have hbW : w.heap.size ≤ b := by have := HBW.out; omega
  have hQ1 := HQ1.out
  have hSZ := HSZ.out
  have m6 := HM4.out.below hb6 HM4.out.lt
  have n7 : Has w7 b (stV s A0 A1 a2 e0 e1 c2) 28 := by
    rw [hw7]
    have := n6.set 4 (.slice A1 nC e1)
    have e : (stV s A0 a1 a2 e0 c1 c2).setIfInBounds 4 (.slice A1 nC e1) = stV s A0 A1 a2 e0 e1 c2 := by unfold stV; rw [HLC.out]; rfl
    rw [e] at this; exact this
  have m7 : Has w7 (b + 1) stZ 28 := by rw [hw7]; exact m6.other _ _ (by simp)
  have b7 : RowKit.Below w.heap.size w w7 := by rw [hw7]; exact below_set (HB4.out.trans (hb6.mono HB4.out.size)) (show w.heap.size ≤ b from hbW) _
  have o7 : w7.ownsRow w1.heap.size 68 3 (.slice A0 nS e0) nS (s.sn.flatMap sn3) := by rw [hw7]; exact own_set (own_below HO4.out hb6 (Nat.le_refl _)) n6 (by decide)
  have p7 : w7.ownsRow w4.heap.size 9 1 (.slice A1 nC e1) nC (s.C.map Value.string) := by rw [hw7]; exact own_set ho6 n6 (by decide)
  have k7 : w7.cell? ⟨b, 5, none⟩ = some (.slice a2 nP c2) := by rw [n7.cell]; unfold stV; rw [HLP.out]; rfl
  obtain ⟨w8, hw8⟩ : ∃ w8, w8 = (w7.alloc (.cells zt 37)).drew := ⟨_, rfl⟩
  obtain ⟨q8, hq8⟩ : ∃ q8, q8 = w7.heap.size := ⟨_, rfl⟩
  have hb8 : RowKit.Below w7.heap.size w7 w8 := by rw [hw8]; exact ((RowKit.Below.refl _ w7).alloc (Nat.le_refl _) _).drew
  have hq8' : Has w8 q8 zt 37 := by rw [hw8]; exact Has.new w7 _ _ _ hq8
  have hA8 : ∀ ty, ∃ v' w', (Builtin.append_ #[26, 26] ty #[.slice (some ⟨q8, 0, none⟩) 0 (nP + 9), .slice a2 nP c2]).run Try.prog w8 = .ok v' w' ∧ w'.ownsRow w7.heap.size 37 3 v' nP (s.P.flatMap pl3) ∧ w8.grownBy w' (some q8) := fun ty =>
    app_onto Try.underlying26 hi37 hy0 hy1 hy2 rfl (by decide) (made_own (size := 3) hq8' hzt (by unfold maxLen; omega) (by omega)) hb8.size a2 nP c2 _ (by rw [flat_len pl3 3 (fun _ => rfl), HLP.out]) (by
      rw [← HLP.out]
      exact ps_src (HP.out w8 (b7.trans (hb8.mono b7.size)))) (by
      intro u hu
      obtain ⟨x, _, hx⟩ := List.mem_flatMap.1 hu
      unfold pl3 at hx
      rcases (by simpa using hx : u = _ ∨ u = _ ∨ u = _) with rfl | rfl | rfl <;> rfl) (by unfold maxLen; omega) (by omega)
  obtain ⟨v9, w9, hr9, ho9, hg9⟩ := hA8 26
  have hb9 : RowKit.Below w7.heap.size w7 w9 := hb8.grown hg9 hb8.size (fun j hj => by cases hj; omega)
  have n9 := n7.below hb9 n7.lt
  have m9 := m7.below hb9 m7.lt
  have c9 : w9.cell? ⟨b, 5, none⟩ = some (.slice a2 nP c2) := by rw [n9.cell]; unfold stV; rw [HLP.out]; rfl
  have f9 := n9.frozen 5
  have c8 : (w7.alloc (.cells zt 37)).cell? ⟨b, 5, none⟩ = some (.slice a2 nP c2) := by rw [(n7.below ((RowKit.Below.refl _ w7).alloc (Nat.le_refl _) _) n7.lt).cell]; unfold stV; rw [HLP.out]; rfl
  obtain ⟨A2, e2, hv9, -, -⟩ := own_ps ho9
  rw [HLP.out] at hv9
  subst hv9
  obtain ⟨w10, hw10⟩ : ∃ w10, w10 = w9.setCell ⟨b, 5, none⟩ (.slice A2 nP e2) := ⟨_, rfl⟩
  have n10 : Has w10 b (stV s A0 A1 A2 e0 e1 e2) 28 := by
    rw [hw10]
    have := n9.set 5 (.slice A2 nP e2)
    have e : (stV s A0 A1 a2 e0 e1 c2).setIfInBounds 5 (.slice A2 nP e2) = stV s A0 A1 A2 e0 e1 e2 := by unfold stV; rw [HLP.out]; rfl
    rw [e] at this; exact this
  have m10 : Has w10 (b + 1) stZ 28 := by rw [hw10]; exact m9.other _ _ (by simp)
  have b10 : RowKit.Below w.heap.size w w10 := by rw [hw10]; exact below_set (b7.trans (hb9.mono b7.size)) (show w.heap.size ≤ b from hbW) _
  have o10 : w10.ownsRow w1.heap.size 68 3 (.slice A0 nS e0) nS (s.sn.flatMap sn3) := by rw [hw10]; exact own_set (own_below o7 hb9 (Nat.le_refl _)) n9 (by decide)
  have p10 : w10.ownsRow w4.heap.size 9 1 (.slice A1 nC e1) nC (s.C.map Value.string) := by rw [hw10]; exact own_set (own_below p7 hb9 (Nat.le_refl _)) n9 (by decide)
  have r10 : w10.ownsRow w7.heap.size 37 3 (.slice A2 nP e2) nP (s.P.flatMap pl3) := by rw [hw10]; exact own_set ho9 n9 (by decide)
  have t0 : w10.cell? ⟨b, 0, none⟩ = some (.int .i64 s.k) := by rw [n10.cell]; rfl
  have t1 : w10.cell? ⟨b, 1, none⟩ = some (.int .i64 s.n) := by rw [n10.cell]; rfl
  have t2 : w10.cell? ⟨b, 2, none⟩ = some (.int .i64 s.nx) := by rw [n10.cell]; rfl
  have t3 : w10.cell? ⟨b, 3, none⟩ = some (.slice A0 nS e0) := by rw [n10.cell]; unfold stV; rw [HLS.out]; rfl
  have t4 : w10.cell? ⟨b, 4, none⟩ = some (.slice A1 nC e1) := by rw [n10.cell]; unfold stV; rw [HLC.out]; rfl
  have t5 : w10.cell? ⟨b, 5, none⟩ = some (.slice A2 nP e2) := by rw [n10.cell]; unfold stV; rw [HLP.out]; rfl
  have g0 := m10.frozen 0
  have g1 := m10.frozen 1
  have g2 := m10.frozen 2
  have g3 := m10.frozen 3
  have g4 := m10.frozen 4
  have g5 := m10.frozen 5
  have u0 : w10.cell? ⟨b + 1, 0, none⟩ = some (.int .i64 0) := by rw [m10.cell]; rfl
  have u1 : w10.cell? ⟨b + 1, 1, none⟩ = some (.int .i64 0) := by rw [m10.cell]; rfl
  have u2 : w10.cell? ⟨b + 1, 2, none⟩ = some (.int .i64 0) := by rw [m10.cell]; rfl
  have u3 : w10.cell? ⟨b + 1, 3, none⟩ = some (.slice none 0 0) := by rw [m10.cell]; rfl
  have u4 : w10.cell? ⟨b + 1, 4, none⟩ = some (.slice none 0 0) := by rw [m10.cell]; rfl
  have u5 : w10.cell? ⟨b + 1, 5, none⟩ = some (.slice none 0 0) := by rw [m10.cell]; rfl
  have hp6 := put6 m10 (.int .i64 s.k) (.int .i64 s.n) (.int .i64 s.nx) (.slice A0 nS e0) (.slice A1 nC e1) (.slice A2 nP e2)
  have hbn := below_put6 b10 (by omega : w.heap.size ≤ b + 1) (.int .i64 s.k) (.int .i64 s.n) (.int .i64 s.nx) (.slice A0 nS e0) (.slice A1 nC e1) (.slice A2 nP e2)
  have keep6 : ∀ {lo n m : Nat} {e : TypeId} {v : Value} {xs : List Value}, e ≠ 28 → w10.ownsRow lo e m v n xs → ((((((w10.setCell ⟨b + 1, 0, none⟩ (.int .i64 s.k)).setCell ⟨b + 1, 1, none⟩ (.int .i64 s.n)).setCell ⟨b + 1, 2, none⟩ (.int .i64 s.nx)).setCell ⟨b + 1, 3, none⟩ (.slice A0 nS e0)).setCell ⟨b + 1, 4, none⟩ (.slice A1 nC e1)).setCell ⟨b + 1, 5, none⟩ (.slice A2 nP e2)).ownsRow lo e m v n xs := fun {lo n m e v xs} he h => by
    have h0 := own_set (o := 0) (u := .int .i64 s.k) h m10 (fun x => he x.symm)
    have x0 := m10.set 0 (.int .i64 s.k)
    have h1 := own_set (o := 1) (u := .int .i64 s.n) h0 x0 (fun x => he x.symm)
    have x1 := x0.set 1 (.int .i64 s.n)
    have h2 := own_set (o := 2) (u := .int .i64 s.nx) h1 x1 (fun x => he x.symm)
    have x2 := x1.set 2 (.int .i64 s.nx)
    have h3 := own_set (o := 3) (u := .slice A0 nS e0) h2 x2 (fun x => he x.symm)
    have x3 := x2.set 3 (.slice A0 nS e0)
    have h4 := own_set (o := 4) (u := .slice A1 nC e1) h3 x3 (fun x => he x.symm)
    have x4 := x3.set 4 (.slice A1 nC e1)
    exact own_set (o := 5) (u := .slice A2 nP e2) h4 x4 (fun x => he x.symm)
  have HFIN : Hid (∃ W : World, W = (((((w10.setCell ⟨b + 1, 0, none⟩ (.int .i64 s.k)).setCell ⟨b + 1, 1, none⟩ (.int .i64 s.n)).setCell ⟨b + 1, 2, none⟩ (.int .i64 s.nx)).setCell ⟨b + 1, 3, none⟩ (.slice A0 nS e0)).setCell ⟨b + 1, 4, none⟩ (.slice A1 nC e1)).setCell ⟨b + 1, 5, none⟩ (.slice A2 nP e2) ∧ Has W (b + 1) #[.int .i64 s.k, .int .i64 s.n, .int .i64 s.nx, .slice A0 nS e0, .slice A1 nC e1, .slice A2 nP e2] 28 ∧ RowKit.Below w.heap.size w W ∧ Sn W A0 s.sn ∧ Tx W A1 s.C ∧ Ps W A2 s.P) := hid (by
    refine ⟨_, rfl, hp6, hbn, ?_, ?_, ?_⟩
    · obtain ⟨A, cap, e, -, h⟩ := own_sn (keep6 (by decide) o10)
      cases e; exact h
    · obtain ⟨A, cap, e, -, h⟩ := own_tx (keep6 (by decide) p10)
      cases e; exact h
    · obtain ⟨A, cap, e, -, h⟩ := own_ps (keep6 (by decide) r10)
      cases e; exact h)
  rw [hw5, hq5] at hr6
  rw [hw8, hq8] at hr9
  clear hw5 hq5 hw8 hq8 hA5 hA8 ho6 hg6 hb6 n6 m6 n7 m7 b7 o7 p7 hb8 hq8' ho9 hg9 hb9 n9 m9 n10 m10 b10 o10 p10 r10 hp6 hbn keep6 hb5 hq5'
  go_region_law ((refine step_val rfl (rn_app25 rfl rfl rfl rfl hr6) ?_))
  all_goals (rw [← hw7]; clear hw7)
  all_goals go_wp2_with fail
  all_goals go_region_law ((refine step_val rfl (rn_app26 rfl rfl rfl rfl hr9) ?_))
  all_goals (rw [← hw10]; clear hw10)
  all_goals go_wp2_with fail
  all_goals obtain ⟨W, hW, h1, h2, h3, h4, h5⟩ := HFIN.out
  all_goals rw [← hW]
  all_goals exact ret_state1 Try.results6 rfl rfl h1 rfl ⟨A0, A1, A2, e0, e1, e2, by unfold stV; rw [HLC.out, HLP.out, HLS.out], h3, h4, h5, h2⟩
end Go.Proofs.Ytknddbmnciodaaa
