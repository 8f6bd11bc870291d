/- A text so often; the files that are made one by one; what the examples come to. -/
import Derived.Test.YtnhekngmgjnodaaDoorAwake
import Derived.Test.YtnhekngmgjnodaaDoorGrow
namespace Go.Proofs.YtnhekngmgjnodaaDoor
open Go.RowKit
open Pa
set_option linter.unusedVariables false
/-- a text so often -/
def repS : Nat → ByteArray → ByteArray
  | 0, _ => ⟨#[]⟩
  | n + 1, s => repS n s ++ s
theorem repS_size (n : Nat) (s : ByteArray) : (repS n s).size = n * s.size := by
  induction n with
  | zero => rw [Nat.zero_mul]; rfl
  | succ n ih => rw [repS, ByteArray.size_append, ih, Nat.succ_mul]
set_option maxHeartbeats 2000000 in
theorem times_any (n : Nat) (s : ByteArray) (hn : n ≤ 100000) (hs : s.size ≤ 1000) (w : World) : Calls Tryd.prog 22 #[.int .i64 (n : Int), .string s] w fun e w' => e = .returned (.string (repS n s)) ∧ Below w.heap.size w w' := by
  go_enter Tryd.func22, Tryd.ntmps22
  go_wp2_with fail
  go_loopw [5, 6] (fun v5 v6 wr => ∃ k : Nat, k ≤ n ∧ v6 = .int .i64 (k : Int) ∧ v5 = .string (repS k s) ∧ Below w.heap.size w wr) (fun _ v6 _ => n - (intOf v6).toNat)
  case atStart => exact ⟨0, Nat.zero_le _, rfl, rfl, Below.refl _ _⟩
  case round =>
    obtain ⟨k, hk, rfl, rfl, hB⟩ := hrel
    by_cases hlt : k < n
    · have i1 : (k : Int) < (n : Int) := by omega
      have wk : IntKind.i64.wrap ((k : Int) + 1) = ((k + 1 : Nat) : Int) := by rw [IntKind.wrap_i64]; omega
      have hz := repS_size k s
      have hz2 : k * s.size ≤ 100000 * 1000 := Nat.mul_le_mul (by omega) hs
      have HJ := hid (show repS (k + 1) s = repS k s ++ s from rfl)
      generalize repS k s = t at *
      have e3 : ¬ (9223372036854775807 : Int) < (t.size : Int) + (s.size : Int) := by omega
      clear hz hz2
      go_wp2_with fail
      go_roundw
      case rel => exact ⟨k + 1, by omega, by rfl, by rw [HJ.out], hB⟩
      case measure => first | (simp [intOf]; done) | (simp [intOf]; omega)
    · obtain rfl : k = n := by omega
      have q1 : ¬ ((k : Int) < (k : Int)) := by omega
      go_wp2_with fail
      go_ret
      exact ⟨rfl, hB⟩
theorem own_fs {W : World} {b n : Nat} {e : TypeId} {v : Value} {l : List Fl} (h : W.ownsRow b e 3 v n (l.flatMap fl3)) : ∃ A cap, v = .slice A l.length cap ∧ n = l.length ∧ Fs W A l := by
  have hn : n = l.length := by have := h.1; rw [flat_len fl3 3 (fun _ => rfl)] at this; omega
  subst hn
  rcases h.2 with ⟨h1, h2⟩ | ⟨g, cap, cur, hv, hbg, hh, _⟩
  · have : l = [] := List.length_eq_zero_iff.1 h2
    subst this
    exact ⟨none, 0, h1, rfl, Fs.nil _ _⟩
  · refine ⟨_, cap, hv, rfl, fun j hj => ?_⟩
    have f := flat_get fl3 3 (fun _ => rfl) l j _ (get_of default hj)
    have c : ∀ i u, (fl3 (l.getD j default))[i]? = some u → W.cell? ⟨g, 0 + j * 3 + i, none⟩ = some u := fun i u hu => by
      have := h.cells (g := g) (by rw [hv]; rfl) (j * 3 + i) u (f i u hu)
      have hadd : (⟨g, 0, none⟩ : Addr).add (j * 3 + i) = ⟨g, j * 3 + i, none⟩ := by unfold Addr.add; split <;> simp_all
      rw [hadd] at this
      rw [Nat.zero_add]; exact this
    exact ⟨g, 0, rfl, (Array.getElem?_eq_some_iff.1 hh).1, c 0 _ rfl, c 1 _ rfl, c 2 _ rfl⟩
theorem info38z : (Tryd.prog.info? 38).map (fun i => (i.zero, i.size, i.bytes)) = some (some (.agg #[.string ⟨#[]⟩, .bool false, .string ⟨#[]⟩]), 3, 40) := by kernel_rfl
theorem rn_app22 {ev : Operand → Value} {o : Oper} {w w' : World} {x y : Operand} {v u v' : Value} {t : TypeId} (ho : o.op = .call { callee := .builtin .append, args := #[x, y], argTypes := #[22, 22] }) (hx : ev x = v) (hy : ev y = u) (ht : o.type = t) (hr : (Builtin.append_ #[22, 22] t #[v, u]).run Tryd.prog w = .ok v' w') : (execOp ev o).run Tryd.prog w = .ok (.value v') w' := by
  subst ht
  simp [execOp, ho, hx, hy, resolve, invoke, builtin, hr, Result.andThen]
theorem grow_fs {w : World} {base c n : Nat} {A : Option Addr} {l : List Fl} (h : w.ownsRow base 38 3 (.slice A n c) n (l.flatMap fl3)) (y : Fl) (hl : n ≤ 100000) (hb : base ≤ w.heap.size) :
    ∃ A' c' w', (Builtin.append_ #[22, 22] 22 #[.slice A n c, .slice (some ⟨w.heap.size, 0, none⟩) 1 1]).run Tryd.prog (w.alloc (.cells #[.string y.path, .bool y.dir, .string y.data] 38)) = .ok (.slice A' (n + 1) c') w' ∧ w'.ownsRow base 38 3 (.slice A' (n + 1) c') (n + 1) ((l ++ [y]).flatMap fl3) ∧ Below base w w' ∧ ∀ b cs t, Has w b cs t → (Value.slice A n c).ownBlock ≠ some b → Has w' b cs t := by
  obtain ⟨i, hi, hx0, hx1, hx2⟩ := info_parts info38z
  have hn : n = l.length := by have := h.1; rw [flat_len fl3 3 (fun _ => rfl)] at this; omega
  obtain ⟨w5, hw5⟩ : ∃ w5, w5 = w.alloc (.cells #[.string y.path, .bool y.dir, .string y.data] 38) := ⟨_, rfl⟩
  have hb5 : Below w.heap.size w w5 := by rw [hw5]; exact (Below.refl _ w).alloc (Nat.le_refl _) _
  have hx5 : Has w5 w.heap.size #[.string y.path, .bool y.dir, .string y.data] 38 := by rw [hw5]; exact Has.new w _ _ _ rfl
  have r1 := own_below h hb5 (Nat.le_refl _)
  rw [← hw5]
  obtain ⟨v', w', e1, e2, e3, _⟩ := run_append_own (P := Tryd.prog) w5 base 22 22 38 i (.agg #[.string ⟨#[]⟩, .bool false, .string ⟨#[]⟩]) 3 40 Tryd.underlying22 hi hx0 hx1 hx2 rfl (by decide) _ n _ r1 ⟨w.heap.size, 0, none⟩ 1 1 [.string y.path, .bool y.dir, .string y.data] rfl (fun j u hu => by
    rw [Go.WideShapes.add_plain, Nat.zero_add, hx5.cell]
    simpa using hu) (by simp [Value.oneCell']) (by unfold maxLen; omega) (by omega) (Nat.le_trans hb hb5.size)
  have e6 : l.flatMap fl3 ++ [.string y.path, .bool y.dir, .string y.data] = (l ++ [y]).flatMap fl3 := by simp [fl3]
  rw [e6] at e2
  obtain ⟨A', c', hv, hn', -⟩ := own_fs e2
  rw [← hn'] at hv
  subst hv
  exact ⟨A', c', w', e1, e2, (hb5.mono hb).grown e3 (Nat.le_trans hb hb5.size) (fun j hj => (r1.lt j hj).1), fun b cs t h1 h2 => (h1.below hb5 h1.lt).grown e3 h2⟩
/-- texts as a whole block -/
theorem has_tx {w : World} {b : Nat} {l : List ByteArray} {t : TypeId} (h : Has w b (l.map Value.string).toArray t) : Tx w (some ⟨b, 0, none⟩) l := fun j hj => by
  refine ⟨b, 0, rfl, h.lt, ?_⟩
  rw [Nat.zero_add, h.cell, List.getElem?_toArray, List.getElem?_map, get_of ⟨#[]⟩ hj]; rfl
/-- one of the files that are made -/
def fmB (i : Nat) : ByteArray := ⟨#[102, (97 + i / 16).toUInt8, (97 + i % 16).toUInt8]⟩
def fm (i : Nat) : Fl := ⟨fmB i, false, ⟨#[]⟩⟩
def manyF (k : Nat) : List Fl := (List.range k).map fm
theorem many_len (k : Nat) : (manyF k).length = k := by simp [manyF]
theorem many_snoc (k : Nat) : manyF (k + 1) = manyF k ++ [fm k] := by simp [manyF, List.range_succ]
theorem many_tree : treeP (manyF 256) = true := by decide +kernel
theorem many_small : Small (manyF 256) := long_small (by decide +kernel)
/-- the texts that are no paths -/
def bad14 : List ByteArray := [⟨#[]⟩, ⟨#[47, 97]⟩, ⟨#[97, 47]⟩, ⟨#[97, 47, 47, 98]⟩, ⟨#[97, 47, 46]⟩, ⟨#[97, 47, 46, 46]⟩, ⟨#[46]⟩, ⟨#[46, 46]⟩, ⟨#[97, 32, 98]⟩, ⟨#[97, 127]⟩, ⟨#[97, 32]⟩, ⟨#[97, 195, 169]⟩, repS 33 ⟨#[97]⟩, (repS 49 ⟨#[97, 47]⟩).extract 0 97]
theorem bad_len : bad14.length = 14 := rfl
theorem bad_no : bad14.all (fun s => !mayB s && decide (s.size ≤ 400)) = true := by decide +kernel
theorem bad_at {k : Nat} (h : k < 14) : mayB (bad14.getD k ⟨#[]⟩) = false ∧ (bad14.getD k ⟨#[]⟩).size ≤ 400 := by
  have := List.all_eq_true.1 bad_no _ (getD_mem (l := bad14) (by rw [bad_len]; exact h))
  simpa using this
theorem size33 : (repS 33 ⟨#[97]⟩).size = 33 := repS_size _ _
theorem size49 : (repS 49 ⟨#[97, 47]⟩).size = 98 := repS_size _ _
theorem bigSize (n : Nat) : (repS n ⟨#[120]⟩).size = n := by rw [repS_size]; exact Nat.mul_one n
def bigF : Fl := ⟨⟨#[122]⟩, false, repS 16384 ⟨#[120]⟩⟩
def overF : Fl := ⟨⟨#[122]⟩, false, repS 16384 ⟨#[120]⟩ ++ ⟨#[120]⟩⟩
theorem big_small : Small [bigF] := ⟨by decide, fun x hx => by
  obtain rfl : x = bigF := by simpa using hx
  exact ⟨by decide, by show (repS 16384 ⟨#[120]⟩).size ≤ _; rw [bigSize]; decide⟩⟩
theorem over_small : Small [overF] := ⟨by decide, fun x hx => by
  obtain rfl : x = overF := by simpa using hx
  exact ⟨by decide, by show (repS 16384 ⟨#[120]⟩ ++ ⟨#[120]⟩).size ≤ _; rw [ByteArray.size_append, bigSize]; decide⟩⟩
theorem tree_one (x : Fl) (hm : mayB x.path = true) (ha : abB x.path = false) : treeP [x] = holdB x := by
  unfold treeP
  have e : (List.range [x].length).all (okP [x]) = okP [x] 0 := by simp [List.range_succ]
  rw [e]
  unfold okP
  have e2 : [x].getD 0 default = x := rfl
  rw [e2, hm, ha]
  simp
theorem big_tree : treeP [bigF] = true := by
  rw [tree_one _ (by decide +kernel) (by decide +kernel)]
  show (if false = true then _ else decide ((repS 16384 ⟨#[120]⟩).size ≤ 16384)) = true
  rw [bigSize]; rfl
theorem over_tree : treeP [overF] = false := by
  rw [tree_one _ (by decide +kernel) (by decide +kernel)]
  show (if false = true then _ else decide ((repS 16384 ⟨#[120]⟩ ++ ⟨#[120]⟩).size ≤ 16384)) = false
  rw [ByteArray.size_append, bigSize]; rfl
theorem manyb_small : Small (manyF 256 ++ [bigF]) := ⟨by rw [List.length_append, many_len]; decide, fun x hx => by
  rcases List.mem_append.1 hx with h | h
  · exact many_small.2 x h
  · exact big_small.2 x h⟩
theorem manyb_tree : treeP (manyF 256 ++ [bigF]) = false := by
  unfold treeP
  rw [List.length_append, many_len]; rfl
theorem nil_tree : treeP [] = true := by decide +kernel
theorem nil_small : Small [] := ⟨by decide, fun x hx => by cases hx⟩
def fPa : Fl := ⟨⟨#[97]⟩, false, ⟨#[]⟩⟩
def fPb : Fl := ⟨⟨#[98]⟩, false, ⟨#[]⟩⟩
def fPx : Fl := ⟨⟨#[97]⟩, true, ⟨#[120]⟩⟩
def fPd : Fl := ⟨⟨#[97]⟩, true, ⟨#[]⟩⟩
def fPe : Fl := ⟨⟨#[97, 45, 98]⟩, false, ⟨#[]⟩⟩
def fPf : Fl := ⟨⟨#[97, 47, 98]⟩, false, ⟨#[]⟩⟩
theorem ba_tree : treeP [fPb, fPa] = false := by decide +kernel
theorem aa_tree : treeP [fPa, fPa] = false := by decide +kernel
theorem ax_tree : treeP [fPx] = false := by decide +kernel
theorem def_tree : treeP [fPd, fPe, fPf] = true := by decide +kernel
theorem ba_small : Small [fPb, fPa] := long_small (by decide +kernel)
theorem aa_small : Small [fPa, fPa] := long_small (by decide +kernel)
theorem ax_small : Small [fPx] := long_small (by decide +kernel)
theorem def_small : Small [fPd, fPe, fPf] := long_small (by decide +kernel)
theorem may_dots : mayB ⟨#[46, 46, 46]⟩ = true := by decide +kernel
theorem may_32 : mayB (repS 32 ⟨#[97]⟩) = true := by decide +kernel
theorem may_48 : mayB (repS 48 ⟨#[97, 47]⟩ ++ ⟨#[98]⟩) = false := by decide +kernel
theorem may_47 : mayB (repS 47 ⟨#[97, 47]⟩ ++ ⟨#[98, 98]⟩) = true := by decide +kernel
end Go.Proofs.YtnhekngmgjnodaaDoor
