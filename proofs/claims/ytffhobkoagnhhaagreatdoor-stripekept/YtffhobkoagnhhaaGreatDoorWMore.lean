/- Stripe: Shards. Printed by gen_s13.py. -/
import Derived.Test.YtffhobkoagnhhaaGreatDoorS8
import Derived.Test.YtffhobkoagnhhaaGreatDoorWW11
namespace Go.Proofs.YtffhobkoagnhhaaGreatDoor
open Go.RowKit Go.Maps
open W
set_option linter.unusedVariables false
section
variable {ev : Operand → Value} {o : Oper} {w : World} {x y : Operand}
theorem rn_load32b {g k : Nat} {v : Value} (ho : o.op = .load 32 x) (hx : ev x = .pointer (some ⟨g, k, none⟩)) (hc : w.cell? ⟨g, k, none⟩ = some v) : (execOp ev o).run Tryz.prog w = .ok (.value v) w := by
  simp [execOp, ho, hx, go_sem, hc]
theorem ens41 (args : Array Value) : (callFunc 41 args).run Tryz.prog w = .ok (.enter 41 args) w := by kernel_rfl
end
variable {w0 w w' : World} {b : Nat} {V V' : Wd} {T T0 : Nat → Prop} {c1 c2 gs sn sc B : Nat} {K N : Int}
theorem makes_bools (n : Nat) (hn : n ≤ 1000000) (w : World) : (Instr.makeSlice 32 (.int .i64 (n : Int)) (.int .i64 (n : Int))).run Tryz.prog w = .ok (.slice (some ⟨w.heap.size, 0, none⟩) n n) (w.alloc (.cells (Array.replicate n (.bool false)) 4)) := by
  obtain ⟨i, hi⟩ : ∃ i, Tryz.prog.info? 4 = some i := by
    cases h : Tryz.prog.info? 4 with
    | none => have : (Tryz.prog.info? 4).isSome = true := by kernel_rfl
              rw [h] at this; cases this
    | some i => exact ⟨i, rfl⟩
  have hz : (Tryz.prog.info? 4).map (fun i => (i.zero, i.size, i.bytes)) = some (some (.bool false), 1, 1) := by kernel_rfl
  rw [hi] at hz
  simp only [Option.map_some, Option.some.injEq, Prod.mk.injEq] at hz
  obtain ⟨h1, h2, h3⟩ := hz
  rw [run_make w 32 4 i (.bool false) Tryz.underlying32 hi h1 .i64 .i64 (n : Int) (n : Int) (by omega) (Int.le_refl _) (by rw [h3]; omega) (by omega)]
  have e : madeCells (Value.bool false).cells (n * 1) = Array.replicate n (.bool false) := by
    apply Array.toList_inj.1
    have hz : (Value.bool false).cells = #[.bool false] := rfl
    rw [hz, Nat.mul_one]
    apply List.ext_getElem
    · simp [madeCells]
    · intro k h1 h2
      simp [madeCells, Nat.mod_one]
  rw [h2, Int.toNat_natCast, e]
def blCells (l : List Bool) : List Value := l.map fun x => Value.bool x
/-- the memory of Shards' closure -/
structure SX (c1 c2 : Nat) (K N : Int) (gs sn sc B : Nat) (w : World) (T : Nat → Prop) (l : List Bool) : Prop where
  t1 : T c1
  t2 : T c2
  h1 : Has w c1 #[.int .i64 K, .int .i64 N] 25
  s1 : Has w c2 #[.slice (some ⟨gs, 0, none⟩) sn sc] 32
  s2 : w.ownsRow B 4 1 (.slice (some ⟨gs, 0, none⟩) sn sc) l.length (blCells l)
  s3 : T gs
  sl : l.length = sn
theorem SX.kept (w w' : World) (T : Nat → Prop) (l : List Bool) (h : SX c1 c2 K N gs sn sc B w T l) (hk : Kpt T w w') : SX c1 c2 K N gs sn sc B w' T l :=
  ⟨h.t1, h.t2, hk.has h.t1 h.h1, hk.has h.t2 h.s1, hk.row h.s2 (fun q hq => by cases hq; exact h.s3), h.s3, h.sl⟩
theorem SX.put {i : Nat} {v : Bool} {w : World} {T : Nat → Prop} {l : List Bool} (h : SX c1 c2 K N gs sn sc B w T l) : SX c1 c2 K N gs sn sc B (w.setCell ⟨gs, i, none⟩ (.bool v)) T (l.set i v) := by
  obtain ⟨_, cur, hh⟩ := row_has h.s2 (q := gs) rfl
  have ho := (Only.refl (fun q => q = gs) w).set (p := ⟨gs, i, none⟩) (.inl rfl) (.bool v)
  have hs2 := h.s2
  have hsl := h.sl
  have hr : (w.setCell ⟨gs, i, none⟩ (.bool v)).ownsRow B 4 1 (.slice (some ⟨gs, 0, none⟩) sn sc) sn ((blCells l).set i (.bool v)) := row_put (i := i) (by rw [← hsl]; rw [← hsl] at hs2; exact hs2) _
  rw [show (blCells l).set i (.bool v) = blCells (l.set i v) from by unfold blCells; rw [List.map_set]] at hr
  refine ⟨h.t1, h.t2, ho.has h.h1 (fun e => Has.ne h.h1 hh (by decide) e), ho.has h.s1 (fun e => Has.ne h.s1 hh (by decide) e), ?_, h.s3, by rw [List.length_set]; exact h.sl⟩
  rw [List.length_set, h.sl]
  exact hr
def snx (K N : Int) (d : ByteArray) (l : List Bool) (i : Nat) (x : ByteArray) (_ : Int) : Bool × List Bool := (true, l.set i (snd K N (nmS d i) x).2)
def shF (i : Nat) (nm x : ByteArray) (K N : Int) (vs : Value) (pay : ByteArray) (ok : Bool) (j : Nat) (v : Value) (_ : World) : Prop := match j with
  | 10 => v = vs | 11 => v = .int .i64 (i : Int) | 12 => v = .agg #[.int .i64 K, .int .i64 N] | 13 => v = .agg #[.string nm, .string x]
  | 14 => v = .tuple #[.string pay, .bool ok] | 9 => v = .tuple #[.string pay, .bool ok] | 15 => v = .string pay | 16 => v = .bool ok
  | _ => True
set_option maxHeartbeats 4000000 in
set_option maxRecDepth 20000 in
theorem shards1_any (d : ByteArray) (hl : H.Lay w0) (hT0 : ∀ i, T0 i → i < w.heap.size) (hw : w0.heap.size ≤ w.heap.size) (w1 : World) (V1 : Wd) (T1 : Nat → Prop) (s1 : List Bool) (i : Nat) (x : ByteArray) (e : Int) (Q : Ending → World → Prop) (hi : i < sn) (h : Bes w0 w w1 b V1 T0 T1 (SX c1 c2 K N gs sn sc w.heap.size) s1)
    (hq : ∀ w2 T2, Bes w0 w w2 b V1 T0 T2 (SX c1 c2 K N gs sn sc w.heap.size) (snx K N d s1 i x e).2 → Q (.returned (.bool (snx K N d s1 i x e).1)) w2) : Calls Tryz.prog 43 #[.int .i64 (i : Int), obv (nmS d i) x, .int .i64 e, ptr c1, ptr c2] w1 Q := by
  have HB := hid (boxed w1 (.cells #[.string (nmS d i), .string x] 64))
  have HBX := hid (Has.new w1 w1.heap.size #[.string (nmS d i), .string x] 64 rfl)
  have HBE := hid (h.below SX.kept HB.out)
  have HQ := hid hq
  have HAN : Hid (snx K N d s1 i x e = (true, s1.set i (snd K N (nmS d i) x).2)) := hid rfl
  obtain ⟨wa, hwa⟩ : ∃ wa, wa = w1.alloc (.cells #[.string (nmS d i), .string x] 64) := ⟨_, rfl⟩
  rw [← hwa] at HB HBX HBE
  have b0 : wa.cell? ⟨w1.heap.size, 0, none⟩ = some (.string (nmS d i)) := HBX.out.cell 0
  have b1 : wa.cell? ⟨w1.heap.size, 1, none⟩ = some (.string x) := HBX.out.cell 1
  have k0 : wa.cell? ⟨c1, 0, none⟩ = some (.int .i64 K) := HBE.out.x.h1.cell 0
  have k1 : wa.cell? ⟨c1, 1, none⟩ = some (.int .i64 N) := HBE.out.x.h1.cell 1
  have k2 : wa.cell? ⟨c2, 0, none⟩ = some (.slice (some ⟨gs, 0, none⟩) sn sc) := HBE.out.x.s1.cell 0
  have HLT : Hid (c1 < wa.heap.size ∧ c2 < wa.heap.size ∧ w1.heap.size < wa.heap.size) := hid ⟨HBE.out.x.h1.lt, HBE.out.x.s1.lt, HBX.out.lt⟩
  have HSN : Hid (∀ W', BelW wa W' → Calls Tryz.prog 41 #[.agg #[.int .i64 K, .int .i64 N], .agg #[.string (nmS d i), .string x]] W' fun e w' => e = .returned (.tuple #[.string (snd K N (nmS d i) x).1, .bool (snd K N (nmS d i) x).2]) ∧ Below W'.heap.size W' w') := hid fun W' hW => sound_any K N (nmS d i) x W' ((HBE.out.wt.below hW).lay hl)
  clear h hq
  unfold obv ptr at *
  generalize snd K N (nmS d i) x = sd at *
  obtain ⟨pay, ok⟩ := sd
  simp only at HSN HAN
  generalize nmS d i = nm at *
  go_enter Tryz.func43, Tryz.ntmps43
  go_wp2_with fail
  rw [← hwa]
  clear hwa
  refine Tl.wp_mix_lit (by kernel_rfl) 8 [10, 11, 12, 13, 14, 9, 15, 16] 18 rfl (by kernel_rfl) (BelW wa) (shF i nm x K N (.slice (some ⟨gs, 0, none⟩) sn sc) pay ok) ((Below.refl _ _).drew)
    ⟨fun a' W' hC hF => ?_, fun a' W' hC hF => ?_, fun a' W' hC hF => ?_, fun a' W' hC hF => ?_, fun a' W' hC hF => ?_, fun a' W' hC hF => ?_, fun a' W' hC hF => ?_, fun a' W' hC hF => ?_, trivial⟩ ?_
  · exact Tl.sm_v 10 _ rfl (Tl.wanted_none rfl) hC rfl (rn_load32b rfl ((hF 4 (by decide +kernel)).2 (by decide)) (BelW.cell hC (p := ⟨c2, 0, none⟩) HLT.out.2.1 k2))
  · exact Tl.sm_v 11 _ rfl (Tl.wanted_none rfl) hC rfl (rn_move rfl ((hF 0 (by decide +kernel)).2 (by decide)))
  · exact Tl.sm_v 12 _ rfl (Tl.wanted_none rfl) hC rfl (rn_load25 rfl ((hF 3 (by decide +kernel)).2 (by decide)) (BelW.cell hC (p := ⟨c1, 0, none⟩) HLT.out.1 k0) (BelW.cell hC (p := ⟨c1, 1, none⟩) HLT.out.1 k1))
  · exact Tl.sm_v 13 _ rfl (Tl.wanted_none rfl) hC rfl (rn_load28 rfl ((hF 6 (by decide +kernel)).2 (by decide)) (BelW.cell hC (p := ⟨w1.heap.size, 0, none⟩) HLT.out.2.2 b0) (BelW.cell hC (p := ⟨w1.heap.size, 1, none⟩) HLT.out.2.2 b1))
  · refine Tl.sm_call 41 #[_, _] (Tl.wanted_none rfl) (rn_call2 rfl rfl ((hF 12 (by decide +kernel)).1 (by decide)) ((hF 13 (by decide +kernel)).1 (by decide)) (ens41 _)) ((HSN.out W' hC).mono ?_)
    rintro e w'' ⟨rfl, hb⟩
    exact ⟨_, rfl, Below.trans hC (hb.mono hC.size), fun d v _ h => h, fun d hd => by cases hd; rfl⟩
  · exact Tl.sm_v 9 _ rfl (Tl.wanted_none rfl) hC rfl (rn_move rfl ((hF 14 (by decide +kernel)).1 (by decide)))
  · exact Tl.sm_v 15 _ rfl (Tl.wanted_none rfl) hC rfl (rn_ext0 rfl ((hF 9 (by decide +kernel)).1 (by decide)))
  · exact Tl.sm_v 16 _ rfl (Tl.wanted_none rfl) hC rfl (rn_ext1 rfl ((hF 9 (by decide +kernel)).1 (by decide)))
  intro v wB hw2 hv
  have v10 : v 10 = .slice (some ⟨gs, 0, none⟩) sn sc := hv 10 (by decide)
  have v11 : v 11 = .int .i64 (i : Int) := hv 11 (by decide)
  have v16 : v 16 = .bool ok := hv 16 (by decide)
  have HBB := hid (HBE.out.below SX.kept (show Below wa.heap.size wa wB from hw2))
  clear hv hw2
  simp only [Tl.fill, List.drop_succ_cons, List.drop_zero]
  simp only [Act.put, List.setIfInBounds_toArray, List.set_cons_succ, List.set_cons_zero, v10, v11, v16]
  clear v10 v11 v16 HBE HSN b0 b1 k0 k1 k2
  obtain ⟨hgB, cur, hcur⟩ := row_has HBB.out.x.s2 (q := gs) rfl
  have hcs : i < cur.size := by
    rcases HBB.out.x.s2.2 with ⟨e', _⟩ | ⟨g', cap', cur', e', _, h3, h4, _, h6, _⟩
    · cases e'
    · cases e'
      have e3 : Has wB gs cur' 4 := h3
      unfold Has at hcur e3
      rw [hcur] at e3
      cases e3
      have := HBB.out.x.sl
      omega
  have k3 : wB.cell? ⟨gs, i, none⟩ = some cur[i] := by
    have := hcur.cell i
    rw [Array.getElem?_eq_getElem hcs] at this
    exact this
  have k4 : wB.frozen? ⟨gs, i, none⟩ = false := hcur.frozen i
  have HGB := hid hgB
  generalize cur[i] = u3 at *
  clear hcur hcs hgB
  have HE : Hid (Q (.returned (.bool true)) (wB.setCell ⟨gs, i, none⟩ (.bool ok))) := hid (by
    have := HQ.out (wB.setCell ⟨gs, i, none⟩ (.bool ok)) T1
    rw [HAN.out] at this
    exact this (HBB.out.set ⟨HBB.out.x.s3, HGB.out⟩ hT0 hw HBB.out.x.put))
  clear HQ HAN
  go_wp2_with fail
  exact HE.out
/-- which shards are sound -/
def shG (V : Wd) (K N : Int) (d : ByteArray) : Int × Wd × List Bool := askG d (snx K N d) V.l.length 0 V (List.replicate V.l.length false)
set_option maxHeartbeats 1000000 in
set_option maxRecDepth 20000 in
theorem shards_any (h : WT w0 w b V T) (hl : H.Lay w0) (K N : Int) (d : ByteArray) (hc : V.calls ≤ 900000) (hf : V.left < 9223372036854775808) (Q : Ending → World → Prop)
    (hq1 : askE V K N d ≠ 0 → ∀ w', WT w0 w' b V T → Kpt T w w' → Q (.returned (.tuple #[.slice none 0 0, .int .i64 (askE V K N d)])) w')
    (hq2 : askE V K N d = 0 → (shG V K N d).1 ≠ 0 → ∀ w', WT w0 w' b (shG V K N d).2.1 T → Kpt T w w' → Q (.returned (.tuple #[.slice none 0 0, .int .i64 (shG V K N d).1])) w')
    (hq3 : askE V K N d = 0 → (shG V K N d).1 = 0 → ∀ w' T' v, WT w0 w' b (shG V K N d).2.1 T' → (∀ i, T i → T' i) → Kpt T w w' → w'.ownsRow w.heap.size 4 1 v (shG V K N d).2.2.length (blCells (shG V K N d).2.2) → (∀ q, v.ownBlock = some q → T' q) → (shG V K N d).2.2.length = V.l.length → Q (.returned (.tuple #[v, .int .i64 0])) w') : Calls Tryz.prog 12 #[ptr b, C.cv K N, .string d] w Q := by
  have HB := hid (boxed w (.cells #[.int .i64 K, .int .i64 N] 25))
  have HX0 := hid (Has.new w w.heap.size #[.int .i64 K, .int .i64 N] 25 rfl)
  have HMB := mayBeAsked_any (h.below HB.out) K N d
  have HQ1 := hid hq1
  have HQ2 := hid hq2
  have HQ3 := hid hq3
  have HH := hid h
  have HL := hid hl
  have HC := hid hc
  have HF := hid hf
  clear h hl hc hf hq1 hq2 hq3
  unfold C.cv ptr er at *
  by_cases hz : askE V K N d = 0
  case neg =>
    have HE : Hid (∀ w', Below w.heap.size w w' → Q (.returned (.tuple #[.slice none 0 0, .int .i64 (askE V K N d)])) w') := hid fun w' hb => HQ1.out hz w' (HH.out.below hb) (Kpt.below HH.out hb)
    have p1 : (askE V K N d != 0) = true := by simpa using hz
    clear hz HQ1 HQ2 HQ3
    generalize askE V K N d = z at *
    go_enter Tryz.func12, Tryz.ntmps12
    go_wp2_with fail
    refine HMB.mono ?_
    clear HMB
    rintro x w1 ⟨rfl, hb1⟩
    have HB1 := hid (HB.out.trans (hb1.mono HB.out.size))
    clear hb1
    go_wp2_with fail
    exact HE.out _ HB1.out
  have hfit : d.size = 32 ∧ C.Mx.mayC K N = true ∧ N = (V.l.length : Int) ∧ V.l.length ≤ 12 := by
    unfold askE fitE at hz
    by_cases h1 : C.Mx.mayC K N = true ∧ N = (V.l.length : Int)
    · rw [if_pos h1, if_pos rfl] at hz
      by_cases h2 : d.size = 32
      · refine ⟨h2, h1.1, h1.2, ?_⟩
        have := h1.1
        simp [C.Mx.mayC] at this
        omega
      · rw [if_neg h2] at hz
        cases hz
    · rw [if_neg h1, if_neg (by decide)] at hz
      cases hz
  obtain ⟨hd, hm, hn, hn12⟩ := hfit
  have HQ2' := hid (HQ2.out hz)
  have HQ3' := hid (HQ3.out hz)
  rw [hz] at HMB
  have HHD := hid hd
  have HHN := hid hn12
  obtain ⟨n, hnn⟩ : ∃ n, n = V.l.length := ⟨_, rfl⟩
  have hmk : ∀ w, (Instr.makeSlice 32 (.int .i64 N) (.int .i64 N)).run Tryz.prog w = .ok (.slice (some ⟨w.heap.size, 0, none⟩) n n) (w.alloc (.cells (Array.replicate n (.bool false)) 4)) := fun w => by
    rw [hn, ← hnn]
    exact makes_bools n (by omega) w
  have HNV := hid hnn
  have HNN := hid hn
  clear hz hm hd HQ1 HQ2 HQ3 hn hnn hn12
  go_enter Tryz.func12, Tryz.ntmps12
  go_wp2_with fail
  refine HMB.mono ?_
  clear HMB
  rintro x w1 ⟨rfl, hb1⟩
  have HB1 := hid (HB.out.trans (hb1.mono HB.out.size))
  have hx1 := HX0.out.below hb1 HX0.out.lt
  have HX1 := hid hx1
  have c1 := hx1.cell 1
  clear hb1 hx1 HB HX0
  go_wp2_with fail
  have HBZ : Hid (Below w.heap.size w ((w1.alloc (.cells (Array.replicate n (.bool false)) 4)).alloc (.cells #[.slice (some ⟨w1.heap.size, 0, none⟩) n n] 32))) := hid (HB1.out.trans (((boxed w1 _).trans ((boxed (w1.alloc (.cells (Array.replicate n (.bool false)) 4)) _).mono (by simp))).mono HB1.out.size))
  have HBS : Hid (Bes w0 w ((w1.alloc (.cells (Array.replicate n (.bool false)) 4)).alloc (.cells #[.slice (some ⟨w1.heap.size, 0, none⟩) n n] 32)) b V T (fun i => T i ∨ (w.heap.size ≤ i ∧ i < ((w1.alloc (.cells (Array.replicate n (.bool false)) 4)).alloc (.cells #[.slice (some ⟨w1.heap.size, 0, none⟩) n n] 32)).heap.size)) (SX w.heap.size (w1.heap.size + 1) K N w1.heap.size n n w.heap.size) (List.replicate n false)) := hid (by
    have z1 := HB1.out.size
    have z2 := HX1.out.lt
    have hn12 : n ≤ 12 := by rw [HNV.out]; exact HHN.out
    refine ⟨HH.out.new HBZ.out, ⟨.inr ⟨Nat.le_refl _, by simp; try omega⟩, .inr ⟨by omega, by simp; try omega⟩, ?_, ?_, ?_, .inr ⟨z1, by simp; try omega⟩, by simp⟩, fun i hi => .inl hi, Kpt.below HH.out HBZ.out⟩
    · exact (HX1.out.below (boxed _ _) z2).below (boxed _ _) (by simp; try omega)
    · exact Has.new _ _ _ _ (by simp)
    · have hh : Has ((w1.alloc (.cells (Array.replicate n (.bool false)) 4)).alloc (.cells #[.slice (some ⟨w1.heap.size, 0, none⟩) n n] 32)) w1.heap.size (Array.replicate n (.bool false)) 4 := (Has.new w1 w1.heap.size (Array.replicate n (.bool false)) 4 rfl).below (boxed _ _) (by simp)
      rw [List.length_replicate]
      exact ⟨by simp [blCells], .inr ⟨w1.heap.size, n, Array.replicate n (.bool false), rfl, z1, hh, Nat.le_refl _, by unfold maxLen; omega, by simp, by simp [blCells]⟩⟩)
  have HAK := ask43_any d (by have := HHD.out; omega) w.heap.size (w1.heap.size + 1) (snx K N d) (fun _ => SX w.heap.size (w1.heap.size + 1) K N w1.heap.size n n w.heap.size) (fun _ => SX.kept) (w0 := w0) (V := V) (b := b) (w := w) (T0 := T) (fun w1' V1 T1 s1 i x e Q hi hb hq => shards1_any d HL.out HH.out.lt HH.out.base.size w1' V1 T1 s1 i x e Q (by rw [HNV.out]; exact hi) hb hq) HBS.out HL.out HHN.out HC.out HF.out
  unfold ptr at HAK
  refine HAK _ (fun w3 T3 k hk hb3 => ?_)
  clear HAK HBS HBZ hmk c1
  have HGE : Hid (askG d (snx K N d) V.l.length 0 V (List.replicate n false) = shG V K N d) := hid (by unfold shG; rw [HNV.out])
  rw [HGE.out] at hb3 ⊢
  have HB3 := hid hb3
  have c2 := hb3.x.s1.cell 0
  clear hb3 HGE
  unfold er
  generalize shG V K N d = r at *
  obtain ⟨z, V3, l3⟩ := r
  simp only at HQ2' HQ3' HB3
  by_cases hz : z = 0
  · subst hz
    have HE := hid (HQ3'.out (by first | rfl | trivial) w3 T3 _ HB3.out.wt HB3.out.sub HB3.out.kp HB3.out.x.s2 (fun q hq => by cases hq; exact HB3.out.x.s3) (by rw [HB3.out.x.sl]; exact HNV.out))
    clear HQ2' HQ3'
    go_wp2_with fail
    exact HE.out
  · have HE := hid (HQ2'.out hz w3 (HB3.out.wt.sub HB3.out.sub) HB3.out.kp)
    have p1 : (z != 0) = true := by simpa using hz
    clear HQ2' HQ3' hz
    go_wp2_with fail
    exact HE.out
end Go.Proofs.YtffhobkoagnhhaaGreatDoor
/- Stripe: a blob's shards as objects. -/
namespace Go.Proofs.YtffhobkoagnhhaaGreatDoor
open Go.RowKit Go.Maps
open W
variable {w0 w w' : World} {b : Nat} {V V' : Wd} {T T0 : Nat → Prop}
def zeroO : Nat → List Value
  | 0 => []
  | n + 1 => .string ⟨#[]⟩ :: .string ⟨#[]⟩ :: zeroO n
theorem zeroO_len : ∀ n, (zeroO n).length = n * 2
  | 0 => rfl
  | n + 1 => by show (zeroO n).length + 2 = _; rw [zeroO_len n]; omega
theorem zeroO_get : ∀ (n k : Nat), k < n * 2 → (zeroO n)[k]? = some (.string ⟨#[]⟩)
  | 0, k, h => by omega
  | n + 1, 0, _ => rfl
  | n + 1, 1, _ => rfl
  | n + 1, k + 2, h => by
    show (zeroO n)[k]? = _
    exact zeroO_get n k (by omega)
theorem makes_ob (n : Nat) (hn : n ≤ 1000000) (w : World) : (Instr.makeSlice 55 (.int .i64 (n : Int)) (.int .i64 (n : Int))).run Tryz.prog w = .ok (.slice (some ⟨w.heap.size, 0, none⟩) n n) (w.alloc (.cells (zeroO n).toArray 64)) := by
  obtain ⟨i, hi⟩ : ∃ i, Tryz.prog.info? 64 = some i := by
    cases h : Tryz.prog.info? 64 with
    | none => have : (Tryz.prog.info? 64).isSome = true := by kernel_rfl
              rw [h] at this; cases this
    | some i => exact ⟨i, rfl⟩
  have hz : (Tryz.prog.info? 64).map (fun i => (i.zero, i.size, i.bytes)) = some (some (.agg #[.string ⟨#[]⟩, .string ⟨#[]⟩]), 2, 32) := by kernel_rfl
  rw [hi] at hz
  simp only [Option.map_some, Option.some.injEq, Prod.mk.injEq] at hz
  obtain ⟨h1, h2, h3⟩ := hz
  rw [run_make w 55 64 i (.agg #[.string ⟨#[]⟩, .string ⟨#[]⟩]) Tryz.underlying55 hi h1 .i64 .i64 (n : Int) (n : Int) (by omega) (Int.le_refl _) (by rw [h3]; omega) (by omega)]
  have e : madeCells (Value.agg #[.string ⟨#[]⟩, .string ⟨#[]⟩]).cells (n * 2) = (zeroO n).toArray := by
    apply Array.toList_inj.1
    apply List.ext_getElem?
    intro k
    have hz : (Value.agg #[.string ⟨#[]⟩, .string ⟨#[]⟩]).cells = #[.string ⟨#[]⟩, .string ⟨#[]⟩] := rfl
    rw [hz]
    by_cases hk : k < n * 2
    · show _ = (zeroO n)[k]?
      rw [zeroO_get n k hk]
      rcases Nat.mod_two_eq_zero_or_one k with h | h <;> simp [madeCells, hk, h]
    · rw [List.getElem?_eq_none (by simp [madeCells]; omega)]
      show _ = (zeroO n)[k]?
      rw [List.getElem?_eq_none (by rw [zeroO_len]; omega)]
  rw [h2, Int.toNat_natCast, e]
/-- the object of a blob's shard -/
def shOb (K N : Int) (d : ByteArray) (ps : List (List Nat)) (i : Nat) : Ob := (H.mkN K N d (i : Int) (C.ofBs (ps.getD i [])), H.mkD K N d (i : Int) (C.ofBs (ps.getD i [])))
def objsOf (K N : Int) (d : ByteArray) (ps : List (List Nat)) : List Ob := (List.range ps.length).map (shOb K N d ps)
theorem objsOf_len (K N : Int) (d : ByteArray) (ps : List (List Nat)) : (objsOf K N d ps).length = ps.length := by simp [objsOf]
/-- the first k objects stand in the cells -/
def ObsAt (K N : Int) (d : ByteArray) (ps : List (List Nat)) (cur : Array Value) (k : Nat) : Prop := cur.size = ps.length * 2 ∧ ∀ j, j < k → cur[j * 2]? = some (.string (shOb K N d ps j).1) ∧ cur[j * 2 + 1]? = some (.string (shOb K N d ps j).2)
theorem objCells_get (l : List Ob) : ∀ (k : Nat) (p : Ob), l[k]? = some p → (objCells l)[k * 2]? = some (.string p.1) ∧ (objCells l)[k * 2 + 1]? = some (.string p.2) := by
  induction l with
  | nil => intro k p hp; simp at hp
  | cons q r ih =>
    intro k p hp
    cases k with
    | zero => simp at hp; subst hp; exact ⟨rfl, rfl⟩
    | succ k =>
      have e : objCells (q :: r) = .string q.1 :: .string q.2 :: objCells r := rfl
      rw [e, show (k + 1) * 2 = k * 2 + 1 + 1 by omega]
      exact ih k p (by simpa using hp)
theorem objCells_len (l : List Ob) : (objCells l).length = l.length * 2 := by
  induction l with
  | nil => rfl
  | cons q r ih =>
    have e : objCells (q :: r) = .string q.1 :: .string q.2 :: objCells r := rfl
    rw [e, List.length_cons, List.length_cons, ih, List.length_cons]
    omega
theorem ObsAt.all {K N : Int} {d : ByteArray} {ps : List (List Nat)} {cur : Array Value} (h : ObsAt K N d ps cur ps.length) : cur.toList = objCells (objsOf K N d ps) := by
  apply List.ext_getElem?
  intro j
  by_cases hj : j < ps.length * 2
  · have hq : (objsOf K N d ps)[j / 2]? = some (shOb K N d ps (j / 2)) := by
      unfold objsOf
      rw [List.getElem?_map, List.getElem?_range (by omega)]
      rfl
    have hc := objCells_get _ _ _ hq
    have hh := h.2 (j / 2) (by omega)
    rcases Nat.mod_two_eq_zero_or_one j with h0 | h0
    · rw [show j / 2 * 2 = j by omega] at hc hh
      rw [hc.1, ← hh.1]
      simp
    · rw [show j / 2 * 2 + 1 = j by omega] at hc hh
      rw [hc.2, ← hh.2]
      simp
  · rw [List.getElem?_eq_none (by rw [Array.length_toList, h.1]; omega), List.getElem?_eq_none (by rw [objCells_len, objsOf_len]; omega)]
theorem ObsAt.next {K N : Int} {d : ByteArray} {ps : List (List Nat)} {cur : Array Value} {k : Nat} (h : ObsAt K N d ps cur k) (hk : k < ps.length) : ObsAt K N d ps ((cur.setIfInBounds (k * 2) (.string (shOb K N d ps k).1)).setIfInBounds (k * 2 + 1) (.string (shOb K N d ps k).2)) (k + 1) := by
  have hs := h.1
  refine ⟨by simpa using hs, fun j hj => ?_⟩
  by_cases e : j = k
  · subst e
    constructor
    · rw [Array.getElem?_setIfInBounds_ne (by omega), Array.getElem?_setIfInBounds_self_of_lt (by omega)]
    · rw [Array.getElem?_setIfInBounds_self_of_lt (by simp; omega)]
  · have := h.2 j (by omega)
    constructor
    · rw [Array.getElem?_setIfInBounds_ne (by omega), Array.getElem?_setIfInBounds_ne (by omega)]
      exact this.1
    · rw [Array.getElem?_setIfInBounds_ne (by omega), Array.getElem?_setIfInBounds_ne (by omega)]
      exact this.2
set_option maxHeartbeats 4000000 in
set_option maxRecDepth 20000 in
theorem objectsOf_any (K N : Int) (d : ByteArray) {v : Value} {ps : List (List Nat)} (hp : C.Strs w v ps) (hn : ps.length ≤ 1000) (hl : H.Lay w) (Q : Ending → World → Prop)
    (hq : ∀ w' v', w'.ownsRow w.heap.size 64 2 v' ps.length (objCells (objsOf K N d ps)) → Below w.heap.size w w' → Q (.returned v') w') : Calls Tryz.prog 37 #[C.cv K N, .string d, v] w Q := by
  have HQ := hid hq
  have HB := hid (boxed w (.cells #[.int .i64 K, .int .i64 N] 25))
  have HX := hid (Has.new w w.heap.size #[.int .i64 K, .int .i64 N] 25 rfl)
  have HP := hid (hp.below HB.out)
  have HL := hid (hl.below HB.out)
  have hm := makes_ob ps.length (by omega)
  obtain ⟨a, cp, rfl, _⟩ := hp
  clear hq hl
  unfold C.cv
  generalize hps : ps.length = n at *
  have HPS := hid hps
  clear hps
  obtain ⟨wa, hwa⟩ : ∃ wa, wa = w.alloc (.cells #[.int .i64 K, .int .i64 N] 25) := ⟨_, rfl⟩
  have hza : wa.heap.size = w.heap.size + 1 := by rw [hwa]; simp
  have HZA := hid hza
  clear hza
  rw [← hwa] at HB HX HP HL
  go_enter Tryz.func37, Tryz.ntmps37
  go_wp2_with fail
  rw [← hwa]
  clear hwa
  go_loopg [8, 9, 15] n (fun gk s8 s9 s15 wx => ∃ (k : Nat) (cur : Array Value), k + gk = n ∧ s15 = .int .i64 (k : Int) ∧ Hid (Has wx (w.heap.size + 1) cur 64 ∧ ObsAt K N d ps cur k ∧ Below wa.heap.size wa wx))
  case atStart =>
    refine ⟨0, (zeroO n).toArray, by omega, rfl, hid ⟨?_, ⟨by rw [List.size_toArray, zeroO_len, HPS.out], fun j hj => by omega⟩, boxed _ _⟩⟩
    exact Has.new _ _ _ _ (by rw [HZA.out])
  case round =>
    obtain ⟨k, cur, hk, rfl, HI⟩ := hrel
    cases gk with
    | zero =>
      have q1 : ¬ ((k : Int) < (n : Int)) := by omega
      have hkn : k = n := by omega
      have HE : Hid (Q (.returned (.slice (some ⟨w.heap.size + 1, 0, none⟩) n n)) wr) := hid (HQ.out wr _ (by
        obtain ⟨i1, i2, i3⟩ := HI.out
        rw [hkn, ← HPS.out] at i2
        rw [← HPS.out]
        exact ⟨by rw [objCells_len, objsOf_len], .inr ⟨w.heap.size + 1, ps.length, cur, rfl, by omega, i1, Nat.le_refl _, by rw [HPS.out]; unfold maxLen; omega, i2.1, by rw [i2.all, List.take_of_length_le (Nat.le_of_eq (by rw [objCells_len, objsOf_len]))]⟩⟩) (HB.out.trans (HI.out.2.2.mono HB.out.size)))
      go_wp2_with fail
      exact HE.out
    | succ g1 =>
      have q1 : (k : Int) < (n : Int) := by omega
      have hkn : k < n := by omega
      have hst := HP.out.below HI.out.2.2
      obtain ⟨a', cp', e', _, _, hcell⟩ := hst
      rw [HPS.out] at e' hcell
      cases e'
      obtain ⟨g, o, rfl, _, hcell⟩ := hcell (by omega)
      have c0 := hcell k hkn
      have hx := HX.out.below HI.out.2.2 HX.out.lt
      have k0 := hx.cell 0
      have k1 := hx.cell 1
      have HMK := H.make_any K N d (k : Int) (C.ofBs (ps.getD k [])) wr (HL.out.below HI.out.2.2)
      unfold H.shc H.mkV H.obv at HMK
      have HSH : Hid (shOb K N d ps k = (H.mkN K N d (k : Int) (C.ofBs (ps.getD k [])), H.mkD K N d (k : Int) (C.ofBs (ps.getD k [])))) := hid rfl
      have HOB := hid (HI.out.2.1.next (by rw [HPS.out]; exact hkn))
      rw [HSH.out] at HOB
      simp only at HOB
      have hcs := HI.out.2.1.1
      rw [HPS.out] at hcs
      have HCS := hid hcs
      generalize H.mkN K N d (k : Int) (C.ofBs (ps.getD k [])) = mn at *
      generalize H.mkD K N d (k : Int) (C.ofBs (ps.getD k [])) = md at *
      generalize H.mkE K N d (k : Int) (C.ofBs (ps.getD k [])) = me at *
      generalize C.ofBs (ps.getD k []) = pl at *
      clear hcell hx hcs HSH
      go_wp2_with fail
      refine HMK.mono ?_
      clear HMK c0 k0 k1
      rintro x w2 ⟨rfl, hb2⟩
      have hh2 := HI.out.1.below hb2 HI.out.1.lt
      have hcs := HCS.out
      have j0 : w2.cell? ⟨w.heap.size + 1, k * 2, none⟩ = some cur[k * 2] := by rw [hh2.cell, Array.getElem?_eq_getElem (by omega)]
      have j1 : w2.cell? ⟨w.heap.size + 1, k * 2 + 1, none⟩ = some cur[k * 2 + 1] := by rw [hh2.cell, Array.getElem?_eq_getElem (by omega)]
      have f0 := hh2.frozen (k * 2)
      have f1 := hh2.frozen (k * 2 + 1)
      have j2 : ∀ u, (w2.setCell ⟨w.heap.size + 1, k * 2, none⟩ u).cell? ⟨w.heap.size + 1, k * 2 + 1, none⟩ = some cur[k * 2 + 1] := fun u => by
        rw [(hh2.set (k * 2) u).cell, Array.getElem?_setIfInBounds_ne (by omega), Array.getElem?_eq_getElem (by omega)]
      have f2 : ∀ u, (w2.setCell ⟨w.heap.size + 1, k * 2, none⟩ u).frozen? ⟨w.heap.size + 1, k * 2 + 1, none⟩ = false := fun u => (hh2.set (k * 2) u).frozen _
      generalize cur[k * 2] = u0 at *
      generalize cur[k * 2 + 1] = u1 at *
      have HH2 := hid hh2
      have HB2 := hid (HI.out.2.2.trans (hb2.mono HI.out.2.2.size))
      clear hb2 hh2 hcs
      go_wp2_with fail
      go_roundg g1
      case measure => omega
      case rel =>
        refine ⟨k + 1, _, by omega, by first | rfl | simp, hid ⟨(HH2.out.set _ _).set _ _, HOB.out, ?_⟩⟩
        exact (HB2.out.setCell (p := ⟨w.heap.size + 1, k * 2, none⟩) (by rw [HZA.out]; exact Nat.le_refl _) _).setCell (p := ⟨w.heap.size + 1, k * 2 + 1, none⟩) (by rw [HZA.out]; exact Nat.le_refl _) _
end Go.Proofs.YtffhobkoagnhhaaGreatDoor
/- More of the elder texts. Printed by more.py. -/
/- What several texts need: gathered. -/
namespace Go.Proofs.YtffhobkoagnhhaaGreatDoor.W
open Go.RowKit Go.Maps
section
variable {ev : Operand → Value} {o : Oper} {w : World} {x y z : Operand}
end
theorem counted_eq (s : St) : (counted s).2 = { s with refuse := (counted s).2.refuse } := by
  unfold counted; split <;> (cases s; simp_all)
theorem counted_refuse (s : St) : ((counted s).1 = false ∧ s.refuse = none ∧ (counted s).2.refuse = none) ∨ (∃ m, (counted s).1 = false ∧ s.refuse = some (m + 1) ∧ (counted s).2.refuse = some m) ∨ ((counted s).1 = true ∧ s.refuse = some 0 ∧ (counted s).2.refuse = none) := by
  unfold counted
  cases h : s.refuse with
  | none => exact .inl ⟨rfl, rfl, h⟩
  | some n => cases n with
    | zero => exact .inr (.inr ⟨rfl, rfl, rfl⟩)
    | succ m => exact .inr (.inl ⟨m, rfl, rfl, rfl⟩)
/-- what a write that was tried did -/
inductive Did (s : St) (n : ByteArray) (c : Option ByteArray) : Int → St → Prop
  | ok (r : Option Nat) (h : (s.refuse = none ∧ r = none) ∨ ∃ m, s.refuse = some (m + 1) ∧ r = some m) : Did s n c 0 { s with refuse := r, live := s.live || c.isSome, seen := setC n c s.seen, writes := s.writes ++ [⟨n, look n s.seen, c⟩] }
  | no (h : s.refuse = some 0) : Did s n c 53 { s with refuse := none }
theorem tried_did (s : St) (n : ByteArray) (c : Option ByteArray) : Did s n c (tried s n c).1 (tried s n c).2 := by
  have e := counted_eq s
  rcases counted_refuse s with ⟨h1, h2, h3⟩ | ⟨m, h1, h2, h3⟩ | ⟨h1, h2, h3⟩
  · unfold tried
    rw [h1, e, h3]
    exact Did.ok none (.inl ⟨h2, rfl⟩)
  · unfold tried
    rw [h1, e, h3]
    exact Did.ok (some m) (.inr ⟨m, h2, rfl⟩)
  · unfold tried
    rw [h1, e, h3]
    exact Did.no h2
theorem setC_len (n : ByteArray) (c : Option ByteArray) (M : List Ob) : (setC n c M).length ≤ M.length + 1 := by
  have h1 : ∀ n, (drop n M).length ≤ M.length := fun n => List.length_filter_le _ _
  cases c with
  | none => exact Nat.le_succ_of_le (h1 n)
  | some d =>
    have h2 : ∀ (o : Ob) (L : List Ob), (ins o L).length = L.length + 1 := fun o L => by
      induction L with
      | nil => rfl
      | cons p r ih => unfold ins; split <;> simp [ih]
    show (put (n, d) M).length ≤ _
    unfold put
    rw [h2]
    have := h1 n
    show (drop n M).length + 1 ≤ _
    omega
theorem mem_setC' {n : ByteArray} {c : Option ByteArray} {M : List Ob} {p : Ob} (h : p ∈ setC n c M) : p ∈ M ∨ (p.1 = n ∧ c = some p.2) := by
  cases c with
  | none => exact .inl (mem_drop.1 h).1
  | some d =>
    rcases mem_put.1 h with rfl | h
    · exact .inr ⟨rfl, rfl⟩
    · exact .inl h.1
theorem look_mem {n d : ByteArray} {M : List Ob} (h : look n M = some d) : ∃ p ∈ M, p.1 = n ∧ p.2 = d := by
  unfold look at h
  cases hf : M.find? (fun p => decide (p.1 = n)) with
  | none => rw [hf] at h; cases h
  | some p =>
    rw [hf] at h
    exact ⟨p, List.mem_of_find?_eq_some hf, by simpa using List.find?_some hf, by simpa using h⟩
theorem look_size {n : ByteArray} {M : List Ob} {K : Nat} (h : ∀ p ∈ M, p.2.size ≤ K) : ((look n M).getD ⟨#[]⟩).size ≤ K := by
  cases hl : look n M with
  | none => exact Nat.zero_le _
  | some d => obtain ⟨p, hp, _, rfl⟩ := look_mem hl; exact h p hp
theorem Did.fit {s : St} {n : ByteArray} {c : Option ByteArray} {e : Int} {s' : St} (h : Did s n c e s') {N : Nat} (hF : Fit N s) (hn : n.size ≤ 80) (hc : (c.getD ⟨#[]⟩).size ≤ 65536) : Fit (N + 1) s' := by
  cases h with
  | no h => exact ⟨Nat.le_succ_of_le hF.seen, Nat.le_succ_of_le hF.writes, hF.names, hF.datas, hF.wnames, hF.was, hF.now, fun k hk => (by cases hk), hF.room⟩
  | ok r h =>
    refine ⟨Nat.le_trans (setC_len _ _ _) (Nat.succ_le_succ hF.seen), ?_, ?_, ?_, ?_, ?_, ?_, ?_, hF.room⟩
    · have := hF.writes; simp; omega
    · intro p hp
      rcases mem_setC' hp with h | ⟨h, _⟩
      · exact hF.names p h
      · rw [h]; exact hn
    · intro p hp
      rcases mem_setC' hp with h | ⟨_, h⟩
      · exact hF.datas p h
      · rw [h] at hc; exact hc
    · intro q hq
      rcases List.mem_append.1 hq with h | h
      · exact hF.wnames q h
      · rw [List.mem_singleton] at h; subst h; exact hn
    · intro q hq
      rcases List.mem_append.1 hq with h | h
      · exact hF.was q h
      · rw [List.mem_singleton] at h; subst h; exact look_size hF.datas
    · intro q hq
      rcases List.mem_append.1 hq with h | h
      · exact hF.now q h
      · rw [List.mem_singleton] at h; subst h; exact hc
    · intro k hk
      rcases h with ⟨_, h⟩ | ⟨m, h1, h⟩
      · rw [h] at hk; cases hk
      · rw [h] at hk; cases hk; have := hF.refuse _ h1; omega
/-- what put did -/
theorem put_did (s : St) (n d : ByteArray) : ((putS s n d).1 ≠ 0 ∧ (putS s n d).1 ≠ 53 ∧ (putS s n d).2 = s) ∨ (n.size ≤ 80 ∧ d.size ≤ 65536 ∧ Did s n (some d) (putS s n d).1 (putS s n d).2) := by
  unfold putS
  by_cases h1 : badName n d = true
  · rw [if_pos h1]; exact .inl ⟨by simp, by simp, rfl⟩
  · rw [if_neg h1]
    by_cases h2 : s.down = true
    · rw [if_pos h2]; exact .inl ⟨by simp, by simp, rfl⟩
    · rw [if_neg h2]
      by_cases h3 : over s n d = true
      · rw [if_pos h3]; exact .inl ⟨by simp, by simp, rfl⟩
      · rw [if_neg h3]
        unfold badName at h1
        simp only [Bool.or_eq_true, decide_eq_true_eq, not_or] at h1
        exact .inr ⟨by omega, by omega, tried_did _ _ _⟩
theorem put_fit {N : Nat} {s : St} (hF : Fit N s) (n d : ByteArray) : Fit (N + 1) (putS s n d).2 := by
  rcases put_did s n d with ⟨_, _, h⟩ | ⟨h1, h2, h⟩
  · rw [h]; exact hF.more (Nat.le_succ _)
  · exact h.fit hF h1 h2
end Go.Proofs.YtffhobkoagnhhaaGreatDoor.W
