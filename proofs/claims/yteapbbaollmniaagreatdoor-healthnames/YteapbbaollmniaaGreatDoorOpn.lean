/- HealthNames. -/
import Derived.Test.YteapbbaollmniaaGreatDoorHNum
import Derived.Test.YteapbbaollmniaaGreatDoorHSums
import Derived.Test.YteapbbaollmniaaGreatDoorCards
import Derived.Test.YteapbbaollmniaaGreatDoorTie
import Derived.Test.YteapbbaollmniaaGreatDoorHSName
import Derived.WalkKit
import Derived.ProofKit
import Derived.OpenShut
import Derived.Deep.DeepHandedRow
import Derived.Lib.LaidTab
import Derived.Lib.SmallJoins
import Derived.Carry
import Derived.Stop.LaidErr
namespace Go.Proofs.YteapbbaollmniaaGreatDoor
open Go.RowKit Go.Maps
open W
set_option linter.unusedVariables false
section
variable {ev : Operand → Value} {o : Oper} {w : World} {x y z : Operand}
theorem ens11 (args : Array Value) : (callFunc 11 args).run Tryz.prog w = .ok (.enter 11 args) w := by kernel_rfl
theorem rn_sl9n {A : ByteArray} {lo : Nat} (ho : o.op = .slice 9 x (some y) none none) (hx : ev x = .string A) (hy : ev y = .int .i64 (lo : Int)) (h1 : lo ≤ A.size) : (execOp ev o).run Tryz.prog w = .ok (.value (.string (A.extract lo A.size))) w := by
  have e1 : (0 : Int) ≤ (lo : Int) := by omega
  have e2 : (lo : Int) ≤ (A.size : Int) := by omega
  simp [execOp, ho, hx, hy, go_sem, e1, e2]
end
variable {w0 w w' : World} {b : Nat} {V V' : Wd} {T : Nat → Prop} {K N : Int} {bl : List Nat} {n k m : Nat}
theorem new_left (h : WI n (fun _ s => s = st0) V) : LeftW K N bl n V := ⟨h.lit, h.len, fun m x hx => by rw [h.st m x hx]; exact ⟨rfl, .inl rfl, fit_st⟩, h.calls, h.left⟩
theorem ext_size {d : ByteArray} (h : d.size = 32) : (d.extract 1 d.size).size = 31 := by
  rw [ByteArray.size_extract]
  omega
def naF (b : Nat) (d : ByteArray) (i : Nat) (v : Value) (_ : World) : Prop := match i with
  | 54 => v = .pointer (some ⟨b, 0, none⟩) | 55 => v = .agg #[.int .i64 2, .int .i64 3] | 56 => v = .string d | 57 => v = .string (d.extract 1 d.size)
  | 58 => v = .tuple #[.slice none 0 0, .int .i64 1] | 53 => v = .tuple #[.slice none 0 0, .int .i64 1] | 59 => v = .slice none 0 0 | 60 => v = .int .i64 1 | 13 => v = .slice none 0 0 | 14 => v = .int .i64 1
  | _ => True
set_option maxHeartbeats 8000000 in
set_option maxRecDepth 20000 in
theorem names_true (w : World) (hl : H.Lay w) (Q : Ending → World → Prop) (hq : ∀ w', Below w.heap.size w w' → Q (.returned (.bool true)) w') : Calls Tryz.prog 4 #[] w Q := by
  have HQ := hid hq
  have HL := hid hl
  have HS := H.refSum_any ⟨#[98, 108, 111, 98]⟩ (by decide) w
  obtain ⟨bl, hbl⟩ : ∃ bl, bl = H.bs ⟨#[98, 108, 111, 98]⟩ := ⟨_, rfl⟩
  have HBL : Hid (bl.length ≤ 32768 ∧ ∀ x ∈ bl, x < 256) := hid (by rw [hbl]; exact ⟨by decide, by decide⟩)
  obtain ⟨d, hd⟩ : ∃ d, d = dig bl := ⟨_, rfl⟩
  rw [← hbl, show H.ofBs (H.Sha.digest bl) = d from hd.symm] at HS
  have HD := hid hd
  have HD32 : Hid (d.size = 32) := hid (by rw [hd]; exact dig_len bl)
  clear hq hl hbl hd
  go_enter Tryz.func4, Tryz.ntmps4
  go_wp2_with fail
  refine HS.mono ?_
  clear HS
  rintro _ w1 ⟨rfl, hb1⟩
  have HB1 := hid hb1
  clear hb1
  obtain ⟨q, hqq⟩ : ∃ q, q = w1.heap.size := ⟨_, rfl⟩
  obtain ⟨wa, hwa⟩ : ∃ wa, wa = w1.alloc (.cells #[.int .i64 2, .int .i64 3] 23) := ⟨_, rfl⟩
  have hX := Has.new w1 w1.heap.size #[.int .i64 2, .int .i64 3] 23 rfl
  have hBa := boxed w1 (.cells #[.int .i64 2, .int .i64 3] 23)
  obtain ⟨c0, c1, _, _⟩ := two_cells hX
  rw [← hwa] at hX hBa
  rw [← hqq] at hX
  have HX := hid hX
  have HBa := hid (HB1.out.trans (hBa.mono HB1.out.size))
  clear hX hBa
  have HON := of_nil 2 3 d wa
  rw [hwa] at HON
  go_wp2_with fail
  refine HON.mono ?_
  clear HON c0 c1
  rintro _ w2 ⟨rfl, hb2⟩
  rw [← hwa] at hb2
  rw [← hqq]
  have HB2 := hid (HBa.out.trans (hb2.mono HBa.out.size))
  have HX2 := hid (HX.out.below hb2 HX.out.lt)
  clear hb2 hwa hqq
  obtain ⟨c0, c1, _, _⟩ := two_cells HX2.out
  have HMN := mend_nil 2 3 d w2
  go_wp2_with fail
  refine HMN.mono ?_
  clear HMN c0 c1
  rintro _ w3 ⟨rfl, hb3⟩
  have HB3 := hid (HB2.out.trans (hb3.mono HB2.out.size))
  have HX3 := hid (HX2.out.below hb3 HX2.out.lt)
  clear hb3
  go_wp2_with fail
  refine wnew_any _ 3 _ (fun h => absurd ⟨by decide, by decide⟩ h) ?_
  intro _ b g S l w4 h1 h2 h3 h4 h5
  have HX4 := hid (HX3.out.below h5 HX3.out.lt)
  have HW4 : Hid (WT w w4 b (newW l) (fun i => i = q)) := hid ⟨S, g, h1, fun i hi => Nat.le_trans HB3.out.size (h4 i hi), HB3.out.trans (h5.mono HB3.out.size), fun i hi => by
    subst hi
    refine ⟨fun hs => ?_, Nat.lt_of_lt_of_le HX3.out.lt h5.size⟩
    have := h4 _ hs
    have := HX3.out.lt
    omega⟩
  have HN := hid (show WI 3 (fun _ s => s = st0) (newW l) from WI.fresh h2 h3)
  have HCA : Hid ((newW l).calls ≤ 900000 ∧ (newW l).left = 0) := hid ⟨Nat.zero_le _, rfl⟩
  have HC0 : Hid ((newW l).calls = 0) := hid rfl
  clear h1 h2 h3 h4 h5
  generalize newW l = V at *
  have HG1 : Hid (gaE V 2 4 d = 1) := hid (by unfold gaE; rw [if_neg]; rintro ⟨_, h, _⟩; rw [HN.out.len] at h; omega)
  have HG2 : Hid (gaE V 0 3 d = 1) := hid (by unfold gaE; rw [if_neg]; rintro ⟨h, _⟩; exact absurd h (by decide))
  have HGA : Hid (gaE V 2 3 (d.extract 1 d.size) = 1) := hid (by unfold gaE; rw [if_neg]; rintro ⟨_, _, h⟩; rw [ext_size HD32.out] at h; omega)
  go_wp2_with fail
  refine of_bad HW4.out HL.out HG1.out HCA.out.1 HCA.out.2 _ ?_
  intro w5 h5 k5
  have HW5 := hid h5
  have HX5 := hid (k5.has rfl HX4.out)
  clear h5 k5
  go_wp2_with fail
  refine of_bad HW5.out HL.out HG2.out HCA.out.1 HCA.out.2 _ ?_
  intro w6 h6 k6
  have HW6 := hid h6
  have HX6 := hid (k6.has rfl HX5.out)
  clear h6 k6
  go_wp2_with fail
  refine Tl.wp_mix_lit (by kernel_rfl) 10 [54, 55, 56, 57, 58, 53, 59, 60, 13, 14] 115 rfl (by kernel_rfl) (fun W => WT w W b V (fun i => i = q) ∧ Has W q #[.int .i64 2, .int .i64 3] 23) (naF b d) ⟨HW6.out.below ((Below.refl _ _).drew), HX6.out.below ((Below.refl _ _).drew) HX6.out.lt⟩
    ⟨fun a' W' hC hF => ?_, fun a' W' hC hF => ?_, fun a' W' hC hF => ?_, fun a' W' hC hF => ?_, fun a' W' hC hF => ?_, fun a' W' hC hF => ?_, fun a' W' hC hF => ?_, fun a' W' hC hF => ?_, fun a' W' hC hF => ?_, fun a' W' hC hF => ?_, trivial⟩ ?_
  · exact Tl.sm_v 54 _ rfl (Tl.wanted_none rfl) hC rfl (rn_move rfl ((hF 7 (by decide +kernel)).2 (by decide)))
  · exact Tl.sm_v 55 _ rfl (Tl.wanted_none rfl) hC rfl (rn_load25 rfl ((hF 2 (by decide +kernel)).2 (by decide)) (two_cells hC.2).1 (two_cells hC.2).2.1)
  · exact Tl.sm_v 56 _ rfl (Tl.wanted_none rfl) hC rfl (rn_move rfl ((hF 1 (by decide +kernel)).2 (by decide)))
  · exact Tl.sm_v 57 _ rfl (Tl.wanted_none rfl) hC rfl (rn_sl9n (lo := 1) rfl ((hF 56 (by decide +kernel)).1 (by decide)) rfl (by rw [HD32.out]; decide))
  · refine Tl.sm_call 11 #[_, _, _] (Tl.wanted_none rfl) (rn_call3 rfl rfl ((hF 54 (by decide +kernel)).1 (by decide)) ((hF 55 (by decide +kernel)).1 (by decide)) ((hF 57 (by decide +kernel)).1 (by decide)) (ens11 _)) (of_bad hC.1 HL.out HGA.out HCA.out.1 HCA.out.2 _ fun w'' h9 k9 => ?_)
    exact ⟨_, rfl, ⟨h9, k9.has rfl hC.2⟩, fun d v _ h => h, fun d hd => by cases hd; rfl⟩
  · exact Tl.sm_v 53 _ rfl (Tl.wanted_none rfl) hC rfl (rn_move rfl ((hF 58 (by decide +kernel)).1 (by decide)))
  · exact Tl.sm_v 59 _ rfl (Tl.wanted_none rfl) hC rfl (rn_ext0 rfl ((hF 53 (by decide +kernel)).1 (by decide)))
  · exact Tl.sm_v 60 _ rfl (Tl.wanted_none rfl) hC rfl (rn_ext1 rfl ((hF 53 (by decide +kernel)).1 (by decide)))
  · exact Tl.sm_v 13 _ rfl (Tl.wanted_none rfl) hC rfl (rn_assign rfl ((hF 59 (by decide +kernel)).1 (by decide)))
  · exact Tl.sm_v 14 _ rfl (Tl.wanted_none rfl) hC rfl (rn_assign rfl ((hF 60 (by decide +kernel)).1 (by decide)))
  intro v w7 hw hv
  have v14 : v 14 = .int .i64 1 := hv 14 (by decide)
  have HW7 := hid hw.1
  have HX7 := hid hw.2
  clear hv hw
  simp only [Tl.fill, List.drop_succ_cons, List.drop_zero, wpList]
  simp only [Act.put, List.setIfInBounds_toArray, List.set_cons_succ, List.set_cons_zero, v14]
  clear v14
  obtain ⟨c0, c1, _, _⟩ := two_cells HX7.out
  have HLV : Hid (LeftW 2 3 bl 3 V) := hid (new_left HN.out)
  have HSD : Hid (sdL 2 3 (dig bl) V.l = [false, false, false]) := hid (by
    have h := HN.out
    obtain ⟨l, calls, dark, cut, left⟩ := V
    have hn : l.length = 3 := h.len
    match l, hn with
    | [x0, x1, x2], _ =>
      have e : ∀ (m : Nat) (x : Kp), [x0, x1, x2][m]? = some x → (m : Int) < 3 → okAt 2 3 bl m x.st = false := fun m x hx hm => by
        rw [(HLV.out.st m x hx).okAt_is (by decide) HBL.out.1 hm, h.st m x hx]
        rfl
      show [okAt 2 3 bl 0 x0.st, okAt 2 3 bl 1 x1.st, okAt 2 3 bl 2 x2.st] = _
      rw [e 0 x0 rfl (by decide), e 1 x1 rfl (by decide), e 2 x2 rfl (by decide)])
  have HOF : ∀ Q : Ending → World → Prop, (∀ w' g, WT w w' b { V with calls := V.calls + 3 } (fun i => i = q ∨ i = g) → Kpt (fun i => i = q) w7 w' → Has w' g (bRow [false, false, false]) 4 → Q (.returned (.tuple #[.slice (some ⟨g, 0, none⟩) 3 3, .int .i64 0])) w') → Calls Tryz.prog 11 #[.pointer (some ⟨b, 0, none⟩), .agg #[.int .i64 2, .int .i64 3], .string d] w7 Q := fun Q hq => by
    rw [HD.out]
    refine of_n HW7.out HL.out HLV.out (by decide) rfl Q ?_
    rw [HSD.out]
    exact fun w' g a b c _ => hq w' g a b c
  go_wp2_with fail
  refine HOF _ ?_
  clear HOF c0 c1
  intro w8 g1 h8 k8 hg8
  have HW8 := hid h8
  have HX8 := hid (k8.has rfl HX7.out)
  have HG8 := hid hg8
  clear h8 k8 hg8
  obtain ⟨c0, c1, _, _⟩ := two_cells HX8.out
  have HME : ∀ Q : Ending → World → Prop, (∀ w', WT w w' b { V with calls := V.calls + 3 + 3 } (fun i => i = q ∨ i = g1) → Kpt (fun i => i = q ∨ i = g1) w8 w' → Q (.returned (.tuple #[.int .i64 0, .int .i64 54])) w') → Calls Tryz.prog 13 #[.pointer (some ⟨b, 0, none⟩), .agg #[.int .i64 2, .int .i64 3], .string d] w8 Q := fun Q hq => by
    rw [HD.out]
    have hL4 : LeftW 2 3 bl 3 { V with calls := V.calls + 3 } := HLV.out.more (by rw [HC0.out]; decide)
    have hsn : sndN 2 3 bl 0 V.l = 0 := by
      unfold sndN
      rw [← sdL_cnt, HSD.out]
      rfl
    refine mend_n HW8.out HL.out hL4 (by decide) rfl HBL.out.1 HBL.out.2 Q (fun e => ?_) (fun e => hq) (fun e => ?_)
    · have : sndN 2 3 bl 0 V.l = 3 := e
      omega
    · have : (2 : Int) ≤ ((sndN 2 3 bl 0 V.l : Nat) : Int) := e
      omega
  go_wp2_with fail
  refine HME _ ?_
  clear HME c0 c1
  intro w9 h9 k9
  have hG9 := k9.has (.inr rfl) HG8.out
  have d0 : w9.cell? ⟨g1, 0, none⟩ = some (.bool false) := hG9.cell 0
  have HAW := awake_true w9 (h9.lay HL.out)
  have HBF := hid h9.base
  clear h9 k9 hG9
  go_wp2_with fail
  refine HAW.mono ?_
  clear HAW
  rintro _ w10 ⟨rfl, hb10⟩
  have HF := hid (HQ.out w10 (HBF.out.trans (hb10.mono HBF.out.size)))
  clear hb10
  go_wp2_with fail
  exact HF.out
end Go.Proofs.YteapbbaollmniaaGreatDoor
/- What the rows' lists give: the tables hold what they are laid as; a world for the witnesses. -/
namespace Go.Proofs.YteapbbaollmniaaGreatDoor
open Go.ChangeShapes Go.WideShapes Go.ChangeAt Go.RowKit
theorem own : ownKnob Tryz.prog.godebug = none := by kernel_rfl
theorem gSq : Tryz.prog.globalNamed "strongbox/sha.squareRoots" = some 0 := by kernel_rfl
theorem gSqType : (Tryz.prog.globals[0]?).map (·.type) = some 208 := by kernel_rfl
theorem gCu : Tryz.prog.globalNamed "strongbox/sha.cubeRoots" = some 1 := by kernel_rfl
theorem gCuType : (Tryz.prog.globals[1]?).map (·.type) = some 267 := by kernel_rfl
theorem gPowType : (Tryz.prog.globals[3]?).map (·.type) = some 294 := by kernel_rfl
theorem cells139 : Tryz.prog.cellsOf 139 = 1 := by kernel_rfl
theorem cells208 : Tryz.prog.cellsOf 208 = 8 := by kernel_rfl
theorem cells267 : Tryz.prog.cellsOf 267 = 64 := by kernel_rfl
theorem cells192 : Tryz.prog.cellsOf 192 = 1 := by kernel_rfl
theorem cells294 : Tryz.prog.cellsOf 294 = 20 := by kernel_rfl
theorem hasC_of_var {W : World} {name : String} {cs : Array Value} {g : Nat} (hg : Tryz.prog.globalNamed name = some g) (h : W.var? Tryz.prog name = some cs) : H.HasC W g cs := by
  unfold World.var? at h
  rw [hg] at h
  simp only [Option.bind_some] at h
  cases hq : W.heap[g]? with
  | none => rw [hq] at h; simp at h
  | some o =>
    rw [hq] at h
    cases o with
    | cells cs t fr =>
      simp only [Option.some.injEq] at h
      subst h
      exact ⟨t, fr, hq⟩
    | _ => simp at h
/-- THE TABLES, off a row's list. -/
theorem lay_of {W : World} (h : laidMetH Tryz.prog [("math/bits.deBruijn32tab", Rows.laid_math_bits_deBruijn32tab), ("math/bits.deBruijn64tab", Rows.laid_math_bits_deBruijn64tab), ("internal/strconv.uint64pow10", Rows.laid_internal_strconv_uint64pow10), ("strongbox/sha.squareRoots", Rows.laid_strongbox_sha_squareRoots), ("strongbox/sha.cubeRoots", Rows.laid_strongbox_sha_cubeRoots)] W) : H.Lay W := by
  have h0 : laidMet Tryz.prog [("math/bits.deBruijn32tab", Rows.laid_math_bits_deBruijn32tab), ("math/bits.deBruijn64tab", Rows.laid_math_bits_deBruijn64tab), ("internal/strconv.uint64pow10", Lib.tabData .u64 Lib.pow10Tab), ("strongbox/sha.squareRoots", Lib.tabData .u32 [1779033703, 3144134277, 1013904242, 2773480762, 1359893119, 2600822924, 528734635, 1541459225]), ("strongbox/sha.cubeRoots", Lib.tabData .u32 (H.Sha.cube.map fun x : Nat => (x : Int)))] W := h
  have h2 := h0.tail.tail
  have t1 := Lib.tabIs_of_head H.gPow gPowType Tryz.underlying294 Tryz.underlying192 cells192 cells294 h2
  have h5 := h2.tail
  have t2 := Lib.tabIs_of_head gSq gSqType Tryz.underlying208 Tryz.underlying139 cells139 cells208 h5
  have t3 := Lib.tabIs_of_head gCu gCuType Tryz.underlying267 Tryz.underlying139 cells139 cells267 h5.tail
  refine ⟨⟨hasC_of_var gSq t2, ?_⟩, hasC_of_var H.gPow t1⟩
  have h6 := hasC_of_var gCu t3
  have e : ((H.Sha.cube.map fun x : Nat => (x : Int)).map fun z => Value.int .u32 z).toArray = H.U32s H.Sha.cube := by
    unfold H.U32s; rw [List.map_map]; rfl
  rw [e] at h6; exact h6
/-- a block with these cells in it -/
def layCells (cs : Array Value) : Obj → Obj
  | .cells _ t fr => .cells cs t fr
  | o => o
/-- a table's cells -/
def datCells : DataW Unit → Array Value
  | .agg l => (l.map fun | .lit (.int k n) => Value.int k n | _ => undef).toArray
  | _ => #[]
/-- A WORLD FOR THE WITNESSES: the settled one, the tables holding what their initialisers lay. -/
noncomputable def laidWorld (os : Os) : World :=
  let w0 := World.holding Tryz.prog os ⟨#[], #[], []⟩
  { w0 with heap := ((((w0.heap.modify 0 (layCells (datCells Rows.laid_strongbox_sha_squareRoots))).modify 1 (layCells (datCells Rows.laid_strongbox_sha_cubeRoots))).modify 3 (layCells (datCells Rows.laid_internal_strconv_uint64pow10))).modify 4 (layCells (datCells Rows.laid_math_bits_deBruijn32tab))).modify 5 (layCells (datCells Rows.laid_math_bits_deBruijn64tab)) }
end Go.Proofs.YteapbbaollmniaaGreatDoor
