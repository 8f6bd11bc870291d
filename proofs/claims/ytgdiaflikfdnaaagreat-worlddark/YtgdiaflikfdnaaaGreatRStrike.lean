/- The document's Strike. -/
import Derived.Test.YtgdiaflikfdnaaaGreatRStrike0
namespace Go.Proofs.YtgdiaflikfdnaaaGreat
open Go.RowKit Go.Maps
theorem conv1 {W : World} {g c : Nat} (h : Has W g #[.int .u8 (c : Int)] 5) : (convert 132 9 (.slice (some ⟨g, 0, none⟩) 1 1)).run Tryz.prog W = .ok (.string (ofBs [c])) W := by
  rw [run_convert_bytes_string W 132 9 5 _ _ _ Tryz.underlying132 Tryz.underlying5 Tryz.underlying9]
  have hl : (loadCells ⟨g, 0, none⟩ 1).run Tryz.prog W = .ok ((([c] : List Nat).map fun x : Nat => (x : Int)).map (Value.int .u8)).toArray W := by
    have h2 := run_loadCells_list (P := Tryz.prog) W ⟨g, 0, none⟩ [Value.int .u8 (c : Int)] (fun j v hv => by
      rw [Addr.add_mid, Nat.zero_add, h.cell j]
      simpa using hv)
    exact h2
  rw [run_bytesToString W _ _ _ _ hl, fold_push]
  simp [ofBs]
section
variable {ev : Operand → Value} {o : Oper} {w : World} {x y : Operand}
theorem rn_c689 {g c : Nat} (ho : o.op = .convert 132 9 x) (hx : ev x = .slice (some ⟨g, 0, none⟩) 1 1) (hh : Has w g #[.int .u8 (c : Int)] 5) : (execOp ev o).run Tryz.prog w = .ok (.value (.string (ofBs [c]))) w := by
  have h := conv1 hh
  simp [execOp, ho, hx, h, Result.andThen]
theorem rn_bs68 {c : Int} (ho : o.op = .buildSlice 132 1 #[(0, x)]) (hx : ev x = .int .u8 c) : (execOp ev o).run Tryz.prog w = .ok (.value (.slice (some ⟨w.heap.size, 0, none⟩) 1 1)) (w.alloc (.cells #[.int .u8 c] 5)) := by
  simp [execOp, ho, hx, go_sem]
theorem rn_add9 {u v : ByteArray} (ho : o.op = .binOp .add 9 x y 9) (hx : ev x = .string u) (hy : ev y = .string v) (hl : u.size + v.size ≤ 9223372036854775807) : (execOp ev o).run Tryz.prog w = .ok (.value (.string (u ++ v))) w := by
  simp [execOp, ho, hx, hy, go_sem, hl]
theorem rn_sl9b {d : ByteArray} {n : Nat} (ho : o.op = .slice 9 x (some y) none none) (hx : ev x = .string d) (hy : ev y = .int .i64 (n : Int)) (hn : n ≤ d.size) : (execOp ev o).run Tryz.prog w = .ok (.value (.string (d.extract n d.size))) w := by
  have q : (n : Int) ≤ (d.size : Int) := by omega
  simp [execOp, ho, hx, hy, go_sem, q]
theorem rn_alloc28 (ho : o.op = .alloc 35) : (execOp ev o).run Tryz.prog w = .ok (.value (.pointer (some ⟨w.heap.size, 0, none⟩))) (w.alloc (.cells #[.string ⟨#[]⟩, .string ⟨#[]⟩] 35)) := by
  simp [execOp, ho, go_sem]
end
/-- the bytes with another one at its place -/
theorem bent_is (d : ByteArray) (a c : Nat) (h : d.size ≠ 0) (hc : c < 256) : d.extract 0 (a % d.size) ++ ofBs [c] ++ d.extract (a % d.size + 1) d.size = bent d a c := by
  have hlt : a % d.size < d.size := Nat.mod_lt _ (by omega)
  unfold bent
  generalize a % d.size = k at *
  apply bs_inj
  have e : (bs d).set k c = (bs d).take k ++ c :: (bs d).drop (k + 1) := by
    rw [List.set_eq_take_append_cons_drop, if_pos (by rw [bs_length]; exact hlt)]
  have e1 : ((bs d).take d.size).drop (k + 1) = (bs d).drop (k + 1) := by
    rw [List.take_of_length_le (by rw [bs_length]; exact Nat.le_refl _)]
  rw [bs_append, bs_append, bs_extract, bs_extract, bs_ofBs [c] (by simpa using hc), bs_ofBs _ (fun x hx => by
    rw [e] at hx
    rcases List.mem_append.1 hx with h | h
    · exact bs_lt d x (List.mem_of_mem_take h)
    · rcases List.mem_cons.1 h with rfl | h
      · exact hc
      · exact bs_lt d x (List.mem_of_mem_drop h)), e, e1]
  simp
def rlF (b : Nat) (sv : Value) (B g L n : Nat) (p : Ob) (M : List Ob) (Z : Nat) (i : Nat) (v : Value) (W : World) : Prop := match i with
  | 61 => v = .pointer (some ⟨b, 0, none⟩)
  | 62 => v = .pointer (some ⟨b, 0, none⟩)
  | 63 => v = .pointer (some ⟨b, 0, none⟩)
  | 64 => v = .pointer (some ⟨b, 0, none⟩)
  | 66 => v = .pointer (some ⟨b, 0, none⟩)
  | 67 => v = .pointer (some ⟨b, 0, none⟩)
  | 68 => v = .pointer (some ⟨b, 0, none⟩)
  | 72 => v = .pointer (some ⟨b, 0, none⟩)
  | 73 => v = .pointer (some ⟨b, 0, none⟩)
  | 74 => v = .pointer (some ⟨b, 0, none⟩)
  | 82 => v = .pointer (some ⟨b, 0, none⟩)
  | 83 => v = .pointer (some ⟨b, 0, none⟩)
  | 65 => v = sv | 69 => v = sv | 75 => v = sv
  | 70 => v = .pointer (some ⟨B, 2, none⟩) | 71 => v = .int .i64 (n : Int) | 76 => v = .int .i64 (L : Int) | 77 => v = .int .i64 ((n % L : Nat) : Int)
  | 78 => v = .pointer (some ⟨g, n % L * 2, none⟩) | 79 => v = .pointer (some ⟨g, n % L * 2, none⟩) | 80 => v = .string p.1
  | 81 => W.ownsRow Z 35 2 v (drop p.1 M).length (objCells (drop p.1 M))
  | _ => True
theorem rlF_below {b : Nat} {sv : Value} {B g L n : Nat} {p : Ob} {M : List Ob} {Z i : Nat} {v : Value} {W W' : World} (h : rlF b sv B g L n p M Z i v W) (hb : Below W.heap.size W W') : rlF b sv B g L n p M Z i v W' := by
  unfold rlF at h ⊢
  split at h
  all_goals first
    | exact h
    | exact row_below h hb
set_option maxHeartbeats 4000000 in
set_option maxRecDepth 20000 in
theorem rstrike_lose {w : World} {S : Nat → Prop} {b : Nat} {r : Rf} (h : IsRf w S b r) (hN : r.good.length + r.writes.length ≤ 1000000) (t : Int) (n a c : Nat) (hn : n < 9223372036854775808) (hc : c < 256) : Calls Tryz.prog 74 #[ptr b, fv 2 t (n : Int) (a : Int) (c : Int)] w fun e w' => e = .returned (er 0) ∧ AfterR w w' S b (loseR r n) := by
  have d1 : decide ((n : Int) < 0) = false := decide_eq_false (by omega)
  have d2 : decide ((a : Int) < 0) = false := decide_eq_false (by omega)
  have d3 : decide ((c : Int) < 0) = false := decide_eq_false (by omega)
  have d4 : decide ((255 : Int) < (c : Int)) = false := decide_eq_false (by omega)
  have HB := hid (boxed w (.cells #[.int .u8 2, .int .i64 t, .int .i64 (n : Int), .int .i64 (a : Int), .int .i64 (c : Int)] 38))
  have HI := hid (h.below HB.out)
  have HO := refObjects_any HI.out hN
  have HBx := Has.new w w.heap.size #[.int .u8 2, .int .i64 t, .int .i64 (n : Int), .int .i64 (a : Int), .int .i64 (c : Int)] 38 rfl
  have HX := hid HBx
  have HS7 : Hid (b < w.heap.size) := hid (by obtain ⟨_, _, hh, _⟩ := h; exact hh.lt)
  have hml := seenR_len hN
  clear h HBx
  unfold er fv
  unfold ptr at *
  obtain ⟨M, hM⟩ : ∃ M, M = seenR r := ⟨_, rfl⟩
  rw [← hM] at HO hml
  have HM := hid hM
  clear hM
  go_enter Tryz.func74, Tryz.ntmps74
  go_wp2_with fail
  refine HO.mono ?_
  clear HO
  rintro x w1 ⟨v, rfl, hr, hb⟩
  obtain ⟨va, vc, rfl⟩ := row_slice hr
  have hx1 : Has w1 w.heap.size #[.int .u8 2, .int .i64 t, .int .i64 (n : Int), .int .i64 (a : Int), .int .i64 (c : Int)] 38 := HX.out.below hb HX.out.lt
  have HA := hid (AfterR.front HB.out (AfterR.good HI.out hr hb))
  obtain ⟨gv', wv', h1, _⟩ := HI.out.below hb
  generalize hL : M.length = L at *
  have HL := hid hL
  clear hL
  have hbne : w.heap.size ≠ b := fun e => by have := HS7.out; omega
  have f0 := h1.frozen 0
  have k0 : w1.cell? ⟨b, 0, none⟩ = some gv' := h1.cell 0
  have g1 := h1.set 0 (.slice va L vc)
  have f1 := g1.frozen 1
  have k1 : (w1.setCell ⟨b, 0, none⟩ (.slice va L vc)).cell? ⟨b, 1, none⟩ = some wv' := g1.cell 1
  have g2 := g1.set 1 (.slice none 0 0)
  have k2 : ((w1.setCell ⟨b, 0, none⟩ (.slice va L vc)).setCell ⟨b, 1, none⟩ (.slice none 0 0)).cell? ⟨b, 0, none⟩ = some (.slice va L vc) := g2.cell 0
  have hx3 := (hx1.other ⟨b, 0, none⟩ (.slice va L vc) hbne).other ⟨b, 1, none⟩ (.slice none 0 0) hbne
  have x0 : ((w1.setCell ⟨b, 0, none⟩ (.slice va L vc)).setCell ⟨b, 1, none⟩ (.slice none 0 0)).cell? ⟨w.heap.size, 0, none⟩ = some (.int .u8 2) := hx3.cell 0
  have hr3 := row_setb (row_setb hr h1 (by decide) 0 (.slice va L vc)) g1 (by decide) 1 (.slice none 0 0)
  have HR3 := hid hr3
  have HX3 := hid hx3
  have HG2 := hid g2
  clear hr hb h1 g1 g2 hx1 hx3 HX hbne hr3 HI
  by_cases hL0 : L = 0
  · subst hL0
    have hm0 : M = [] := List.eq_nil_of_length_eq_zero HL.out
    have HE := hid (show loseR r n = { r with good := M, writes := [] } from by unfold loseR; rw [← HM.out, hm0]; rfl)
    clear hm0
    go_wp2_with fail
    go_ret
    rw [HE.out]
    exact ⟨rfl, HA.out⟩
  · have q5 : (0 : Int) < (L : Int) := by omega
    obtain ⟨p, hp, hp2⟩ := stk_some (M := M) (n := n) (by rw [HL.out]; exact hL0)
    rw [HL.out] at hp2
    have HP := hid hp
    have hnl : n % L < L := Nat.mod_lt _ (by omega)
    have hn0 : L ≠ 0 ∧ n < 9223372036854775808 := ⟨hL0, hn⟩
    obtain ⟨gg, gc, eg, e0, e1⟩ := ob_cells (by rw [HL.out]; exact HR3.out) hp2
    rw [HL.out] at eg
    cases eg
    clear hp hp2 hL0
    go_wp2_with fail
    obtain ⟨W6, hW6⟩ : ∃ W6, W6 = ((w1.setCell ⟨b, 0, none⟩ (.slice (some ⟨gg, 0, none⟩) L vc)).setCell ⟨b, 1, none⟩ (.slice none 0 0)) := ⟨_, rfl⟩
    rw [← hW6]
    rw [← hW6] at e0 e1 k2 HR3 HX3 HG2 HA
    obtain ⟨S6, hi6, hs6, ho6⟩ := HA.out
    have hlb : b < W6.heap.size := HG2.out.lt
    have hlB : w.heap.size < W6.heap.size := HX3.out.lt
    have hlg : gg < W6.heap.size := by
      rcases row_form HR3.out with ⟨e, _⟩ | ⟨g', _, e, hg', _⟩
      · cases e
      · cases e; exact hg'
    have x2 : W6.cell? ⟨w.heap.size, 2, none⟩ = some (.int .i64 (n : Int)) := HX3.out.cell 2
    have x3 : W6.cell? ⟨w.heap.size, 3, none⟩ = some (.int .i64 (a : Int)) := HX3.out.cell 3
    have x4 : W6.cell? ⟨w.heap.size, 4, none⟩ = some (.int .i64 (c : Int)) := HX3.out.cell 4
    clear x0 f0 k0 f1 k1 hW6
    refine Tl.wp_mix_lit (by kernel_rfl) 23 [61, 62, 63, 64, 65, 66, 67, 68, 69, 70, 71, 72, 73, 74, 75, 76, 77, 78, 79, 80, 81, 82, 83] 165 rfl (by kernel_rfl) (BelW W6) (rlF b (.slice (some ⟨gg, 0, none⟩) L vc) w.heap.size gg L n p M W6.heap.size) ((Below.refl _ _).drew)
      ⟨fun a' W' hC hF => ?_, fun a' W' hC hF => ?_, fun a' W' hC hF => ?_, fun a' W' hC hF => ?_, fun a' W' hC hF => ?_, fun a' W' hC hF => ?_, fun a' W' hC hF => ?_, fun a' W' hC hF => ?_, fun a' W' hC hF => ?_, fun a' W' hC hF => ?_, fun a' W' hC hF => ?_, fun a' W' hC hF => ?_, fun a' W' hC hF => ?_, fun a' W' hC hF => ?_, fun a' W' hC hF => ?_, fun a' W' hC hF => ?_, fun a' W' hC hF => ?_, fun a' W' hC hF => ?_, fun a' W' hC hF => ?_, fun a' W' hC hF => ?_, fun a' W' hC hF => ?_, fun a' W' hC hF => ?_, fun a' W' hC hF => ?_, trivial⟩ ?_
    · exact Tl.sm_v 61 _ rfl (Tl.wanted_none rfl) hC rfl (rn_move rfl ((hF 0 (by decide +kernel)).2 (by decide)))
    · exact Tl.sm_v 62 _ rfl (Tl.wanted_none rfl) hC rfl (rn_move rfl ((hF 0 (by decide +kernel)).2 (by decide)))
    · exact Tl.sm_v 63 _ rfl (Tl.wanted_none rfl) hC rfl (rn_nilCheck rfl ((hF 62 (by decide +kernel)).1 (by decide)))
    · exact Tl.sm_v 64 _ rfl (Tl.wanted_none rfl) hC rfl (rn_f79_0 rfl ((hF 63 (by decide +kernel)).1 (by decide)))
    · exact Tl.sm_v 65 _ rfl (Tl.wanted_none rfl) hC rfl (rn_load45 rfl ((hF 64 (by decide +kernel)).1 (by decide)) (BelW.cell hC (p := ⟨b, 0, none⟩) hlb k2))
    · exact Tl.sm_v 66 _ rfl (Tl.wanted_none rfl) hC rfl (rn_move rfl ((hF 0 (by decide +kernel)).2 (by decide)))
    · exact Tl.sm_v 67 _ rfl (Tl.wanted_none rfl) hC rfl (rn_nilCheck rfl ((hF 66 (by decide +kernel)).1 (by decide)))
    · exact Tl.sm_v 68 _ rfl (Tl.wanted_none rfl) hC rfl (rn_f79_0 rfl ((hF 67 (by decide +kernel)).1 (by decide)))
    · exact Tl.sm_v 69 _ rfl (Tl.wanted_none rfl) hC rfl (rn_load45 rfl ((hF 68 (by decide +kernel)).1 (by decide)) (BelW.cell hC (p := ⟨b, 0, none⟩) hlb k2))
    · exact Tl.sm_v 70 _ rfl (Tl.wanted_none rfl) hC rfl (rn_f32_2 rfl ((hF 3 (by decide +kernel)).2 (by decide)))
    · exact Tl.sm_v 71 _ rfl (Tl.wanted_none rfl) hC rfl (rn_load3 rfl ((hF 70 (by decide +kernel)).1 (by decide)) (BelW.cell hC (p := ⟨w.heap.size, 2, none⟩) hlB x2))
    · exact Tl.sm_v 72 _ rfl (Tl.wanted_none rfl) hC rfl (rn_move rfl ((hF 0 (by decide +kernel)).2 (by decide)))
    · exact Tl.sm_v 73 _ rfl (Tl.wanted_none rfl) hC rfl (rn_nilCheck rfl ((hF 72 (by decide +kernel)).1 (by decide)))
    · exact Tl.sm_v 74 _ rfl (Tl.wanted_none rfl) hC rfl (rn_f79_0 rfl ((hF 73 (by decide +kernel)).1 (by decide)))
    · exact Tl.sm_v 75 _ rfl (Tl.wanted_none rfl) hC rfl (rn_load45 rfl ((hF 74 (by decide +kernel)).1 (by decide)) (BelW.cell hC (p := ⟨b, 0, none⟩) hlb k2))
    · exact Tl.sm_v 76 _ rfl (Tl.wanted_none rfl) hC rfl (rn_len45 rfl ((hF 75 (by decide +kernel)).1 (by decide)) )
    · exact Tl.sm_v 77 _ rfl (Tl.wanted_none rfl) hC rfl (rn_rem3 rfl ((hF 71 (by decide +kernel)).1 (by decide)) ((hF 76 (by decide +kernel)).1 (by decide)) hn0)
    · exact Tl.sm_v 78 _ rfl (Tl.wanted_none rfl) hC rfl (rn_ix45 rfl ((hF 69 (by decide +kernel)).1 (by decide)) ((hF 77 (by decide +kernel)).1 (by decide)) hnl)
    · exact Tl.sm_v 79 _ rfl (Tl.wanted_none rfl) hC rfl (rn_f28_0 rfl ((hF 78 (by decide +kernel)).1 (by decide)))
    · exact Tl.sm_v 80 _ rfl (Tl.wanted_none rfl) hC rfl (rn_load9 rfl ((hF 79 (by decide +kernel)).1 (by decide)) (BelW.cell hC (p := ⟨gg, n % L * 2, none⟩) hlg e0))
    · refine Tl.sm_call 77 #[.slice (some ⟨gg, 0, none⟩) L vc, .string p.1] (Tl.wanted_none rfl) (rn_call2 rfl rfl ((hF 65 (by decide +kernel)).1 (by decide)) ((hF 80 (by decide +kernel)).1 (by decide)) (enter73 _)) ((refDrop_any (show W'.ownsRow _ 35 2 _ M.length (objCells M) from by rw [HL.out]; exact row_below HR3.out hC) (by rw [HL.out]; exact hml) p.1).mono ?_)
      rintro e w'' ⟨v, rfl, hr, b1⟩
      exact ⟨v, rfl, Below.trans hC (b1.mono hC.size), fun d v _ h => rlF_below h b1, fun d hd => by cases hd; exact row_base hr hC.size⟩
    · exact Tl.sm_v 82 _ rfl (Tl.wanted_none rfl) hC rfl (rn_nilCheck rfl ((hF 61 (by decide +kernel)).1 (by decide)))
    · exact Tl.sm_v 83 _ rfl (Tl.wanted_none rfl) hC rfl (rn_f79_0 rfl ((hF 82 (by decide +kernel)).1 (by decide)))
    intro v w7 hw7 hv
    have h81 : w7.ownsRow W6.heap.size 35 2 (v 81) (drop p.1 M).length (objCells (drop p.1 M)) := hv 81 (by decide)
    have v83 : v 83 = .pointer (some ⟨b, 0, none⟩) := hv 83 (by decide)
    obtain ⟨ua, uc, hve⟩ := row_slice h81
    rw [hve] at h81
    have HF := hid (rf_good hi6 hw7 h81)
    have hst7 := HG2.out.below hw7 HG2.out.lt
    have y1 := hst7.cell 0
    have y2 := hst7.frozen 0
    have HE := hid (show loseR r n = { r with good := drop p.1 M, writes := [] } from by unfold loseR; rw [← HM.out, HP.out])
    have HS6 := hid hs6
    have HO6 := hid ho6
    clear hv hw7 hst7 h81 e0 e1 k2 x2 x3 x4 hi6 hs6 ho6
    simp only [Tl.fill, List.drop_succ_cons, List.drop_zero]
    simp only [Act.put, List.setIfInBounds_toArray, List.set_cons_succ, List.set_cons_zero, hve, v83]
    clear hve v83
    generalize (drop p.1 M).length = D at *
    go_wp2_with fail
    go_ret
    rw [HE.out]
    exact ⟨rfl, AfterR.trans HS6.out HO6.out HF.out⟩
def rbF4 (b : Nat) (sv : Value) (B g L n : Nat) (p : Ob) (Z : Nat) (i : Nat) (v : Value) (W : World) : Prop := match i with
  | 92 => v = .pointer (some ⟨b, 0, none⟩)
  | 93 => v = .pointer (some ⟨b, 0, none⟩)
  | 94 => v = .pointer (some ⟨b, 0, none⟩)
  | 98 => v = .pointer (some ⟨b, 0, none⟩)
  | 99 => v = .pointer (some ⟨b, 0, none⟩)
  | 100 => v = .pointer (some ⟨b, 0, none⟩)
  | 95 => v = sv | 101 => v = sv
  | 96 => v = .pointer (some ⟨B, 2, none⟩) | 97 => v = .int .i64 (n : Int) | 102 => v = .int .i64 (L : Int) | 103 => v = .int .i64 ((n % L : Nat) : Int)
  | 104 => v = .pointer (some ⟨g, n % L * 2, none⟩) | 105 => v = .agg #[.string p.1, .string p.2]
  | 5 => ∃ q, v = .pointer (some ⟨q, 0, none⟩) ∧ Z ≤ q ∧ Has W q #[.string ⟨#[]⟩, .string ⟨#[]⟩] 35
  | _ => True
theorem rbF4_below {b : Nat} {sv : Value} {B g L n : Nat} {p : Ob} {Z i : Nat} {v : Value} {W W' : World} (h : rbF4 b sv B g L n p Z i v W) (hb : Below W.heap.size W W') : rbF4 b sv B g L n p Z i v W' := by
  unfold rbF4 at h ⊢
  split at h
  all_goals first
    | exact h
    | (obtain ⟨q, e1, e2, e3⟩ := h; exact ⟨q, e1, e2, e3.below hb e3.lt⟩)
def rbF7 (q B k c : Nat) (d : ByteArray) (Z : Nat) (i : Nat) (v : Value) (W : World) : Prop := match i with
  | 115 => v = .pointer (some ⟨q, 1, none⟩) | 116 => v = .string d | 117 => v = .int .i64 (k : Int) | 118 => v = .string (d.extract 0 k)
  | 119 => v = .pointer (some ⟨B, 4, none⟩) | 120 => v = .int .i64 (c : Int) | 121 => v = .int .u8 (c : Int)
  | 122 => ∃ g, v = .slice (some ⟨g, 0, none⟩) 1 1 ∧ Z ≤ g ∧ Has W g #[.int .u8 (c : Int)] 5
  | 123 => v = .string (ofBs [c]) | 124 => v = .string (d.extract 0 k ++ ofBs [c])
  | 125 => v = .pointer (some ⟨q, 1, none⟩) | 126 => v = .string d | 127 => v = .int .i64 (k : Int) | 128 => v = .int .i64 ((k + 1 : Nat) : Int)
  | 129 => v = .string (d.extract (k + 1) d.size) | 130 => v = .string (d.extract 0 k ++ ofBs [c] ++ d.extract (k + 1) d.size)
  | _ => True
theorem rbF7_below {q B k c : Nat} {d : ByteArray} {Z i : Nat} {v : Value} {W W' : World} (h : rbF7 q B k c d Z i v W) (hb : Below W.heap.size W W') : rbF7 q B k c d Z i v W' := by
  unfold rbF7 at h ⊢
  split at h
  all_goals first
    | exact h
    | (obtain ⟨q, e1, e2, e3⟩ := h; exact ⟨q, e1, e2, e3.below hb e3.lt⟩)
def rbF8 (b : Nat) (sv : Value) (p : Ob) (M : List Ob) (Z : Nat) (i : Nat) (v : Value) (W : World) : Prop := match i with
  | 132 => v = .pointer (some ⟨b, 0, none⟩)
  | 133 => v = .pointer (some ⟨b, 0, none⟩)
  | 134 => v = .pointer (some ⟨b, 0, none⟩)
  | 135 => v = .pointer (some ⟨b, 0, none⟩)
  | 139 => v = .pointer (some ⟨b, 0, none⟩)
  | 140 => v = .pointer (some ⟨b, 0, none⟩)
  | 136 => v = sv | 137 => v = .agg #[.string p.1, .string p.2]
  | 138 => W.ownsRow Z 35 2 v (put p M).length (objCells (put p M))
  | _ => True
theorem rbF8_below {b : Nat} {sv : Value} {p : Ob} {M : List Ob} {Z i : Nat} {v : Value} {W W' : World} (h : rbF8 b sv p M Z i v W) (hb : Below W.heap.size W W') : rbF8 b sv p M Z i v W' := by
  unfold rbF8 at h ⊢
  split at h
  all_goals first
    | exact h
    | exact row_below h hb
set_option maxHeartbeats 8000000 in
set_option maxRecDepth 20000 in
theorem rstrike_bend {w : World} {S : Nat → Prop} {b : Nat} {r : Rf} (h : IsRf w S b r) (hN : r.good.length + r.writes.length ≤ 1000000) (hdt : ∀ p ∈ seenR r, p.2.size ≤ 65536) (t : Int) (n a c : Nat) (hn : n < 9223372036854775808) (ha : a < 9223372036854775808) (hc : c < 256) : Calls Tryz.prog 74 #[ptr b, fv 3 t (n : Int) (a : Int) (c : Int)] w fun e w' => e = .returned (er 0) ∧ AfterR w w' S b (bendR r n a c) := by
  have d1 : decide ((n : Int) < 0) = false := decide_eq_false (by omega)
  have d2 : decide ((a : Int) < 0) = false := decide_eq_false (by omega)
  have d3 : decide ((c : Int) < 0) = false := decide_eq_false (by omega)
  have d4 : decide ((255 : Int) < (c : Int)) = false := decide_eq_false (by omega)
  have HB := hid (boxed w (.cells #[.int .u8 3, .int .i64 t, .int .i64 (n : Int), .int .i64 (a : Int), .int .i64 (c : Int)] 38))
  have HI := hid (h.below HB.out)
  have HO := refObjects_any HI.out hN
  have HBx := Has.new w w.heap.size #[.int .u8 3, .int .i64 t, .int .i64 (n : Int), .int .i64 (a : Int), .int .i64 (c : Int)] 38 rfl
  have HX := hid HBx
  have HS7 : Hid (b < w.heap.size) := hid (by obtain ⟨_, _, hh, _⟩ := h; exact hh.lt)
  have hml := seenR_len hN
  clear h HBx
  unfold er fv
  unfold ptr at *
  obtain ⟨M, hM⟩ : ∃ M, M = seenR r := ⟨_, rfl⟩
  rw [← hM] at HO hml
  have HM := hid hM
  clear hM
  go_enter Tryz.func74, Tryz.ntmps74
  go_wp2_with fail
  refine HO.mono ?_
  clear HO
  rintro x w1 ⟨v, rfl, hr, hb⟩
  obtain ⟨va, vc, rfl⟩ := row_slice hr
  have hx1 : Has w1 w.heap.size #[.int .u8 3, .int .i64 t, .int .i64 (n : Int), .int .i64 (a : Int), .int .i64 (c : Int)] 38 := HX.out.below hb HX.out.lt
  have HA := hid (AfterR.front HB.out (AfterR.good HI.out hr hb))
  obtain ⟨gv', wv', h1, _⟩ := HI.out.below hb
  generalize hL : M.length = L at *
  have HL := hid hL
  clear hL
  have hbne : w.heap.size ≠ b := fun e => by have := HS7.out; omega
  have f0 := h1.frozen 0
  have k0 : w1.cell? ⟨b, 0, none⟩ = some gv' := h1.cell 0
  have g1 := h1.set 0 (.slice va L vc)
  have f1 := g1.frozen 1
  have k1 : (w1.setCell ⟨b, 0, none⟩ (.slice va L vc)).cell? ⟨b, 1, none⟩ = some wv' := g1.cell 1
  have g2 := g1.set 1 (.slice none 0 0)
  have k2 : ((w1.setCell ⟨b, 0, none⟩ (.slice va L vc)).setCell ⟨b, 1, none⟩ (.slice none 0 0)).cell? ⟨b, 0, none⟩ = some (.slice va L vc) := g2.cell 0
  have hx3 := (hx1.other ⟨b, 0, none⟩ (.slice va L vc) hbne).other ⟨b, 1, none⟩ (.slice none 0 0) hbne
  have x0 : ((w1.setCell ⟨b, 0, none⟩ (.slice va L vc)).setCell ⟨b, 1, none⟩ (.slice none 0 0)).cell? ⟨w.heap.size, 0, none⟩ = some (.int .u8 3) := hx3.cell 0
  have hr3 := row_setb (row_setb hr h1 (by decide) 0 (.slice va L vc)) g1 (by decide) 1 (.slice none 0 0)
  have HR3 := hid hr3
  have HX3 := hid hx3
  have HG2 := hid g2
  clear hr hb h1 g1 g2 hx1 hx3 HX hbne hr3 HI
  by_cases hL0 : L = 0
  · subst hL0
    have hm0 : M = [] := List.eq_nil_of_length_eq_zero HL.out
    have HE := hid (show bendR r n a c = { r with good := M, writes := [] } from by unfold bendR; rw [← HM.out, hm0]; rfl)
    clear hm0
    go_wp2_with fail
    go_ret
    rw [HE.out]
    exact ⟨rfl, HA.out⟩
  · have q5 : (0 : Int) < (L : Int) := by omega
    obtain ⟨p, hp, hp2⟩ := stk_some (M := M) (n := n) (by rw [HL.out]; exact hL0)
    rw [HL.out] at hp2
    have HP := hid hp
    have hnl : n % L < L := Nat.mod_lt _ (by omega)
    have hn0 : L ≠ 0 ∧ n < 9223372036854775808 := ⟨hL0, hn⟩
    obtain ⟨gg, gc, eg, e0, e1⟩ := ob_cells (by rw [HL.out]; exact HR3.out) hp2
    rw [HL.out] at eg
    cases eg
    clear hp hp2 hL0
    go_wp2_with fail
    obtain ⟨W6, hW6⟩ : ∃ W6, W6 = ((w1.setCell ⟨b, 0, none⟩ (.slice (some ⟨gg, 0, none⟩) L vc)).setCell ⟨b, 1, none⟩ (.slice none 0 0)) := ⟨_, rfl⟩
    rw [← hW6]
    rw [← hW6] at e0 e1 k2 HR3 HX3 HG2 HA
    obtain ⟨S6, hi6, hs6, ho6⟩ := HA.out
    have hlb : b < W6.heap.size := HG2.out.lt
    have hlB : w.heap.size < W6.heap.size := HX3.out.lt
    have hlg : gg < W6.heap.size := by
      rcases row_form HR3.out with ⟨e, _⟩ | ⟨g', _, e, hg', _⟩
      · cases e
      · cases e; exact hg'
    have x2 : W6.cell? ⟨w.heap.size, 2, none⟩ = some (.int .i64 (n : Int)) := HX3.out.cell 2
    have x3 : W6.cell? ⟨w.heap.size, 3, none⟩ = some (.int .i64 (a : Int)) := HX3.out.cell 3
    have x4 : W6.cell? ⟨w.heap.size, 4, none⟩ = some (.int .i64 (c : Int)) := HX3.out.cell 4
    clear x0 f0 k0 f1 k1 hW6
    refine Tl.wp_mix_lit (by kernel_rfl) 15 [92, 93, 94, 95, 96, 97, 98, 99, 100, 101, 102, 103, 104, 105, 5] 165 rfl (by kernel_rfl) (BelW W6) (rbF4 b (.slice (some ⟨gg, 0, none⟩) L vc) w.heap.size gg L n p W6.heap.size) ((Below.refl _ _).drew)
      ⟨fun a' W' hC hF => ?_, fun a' W' hC hF => ?_, fun a' W' hC hF => ?_, fun a' W' hC hF => ?_, fun a' W' hC hF => ?_, fun a' W' hC hF => ?_, fun a' W' hC hF => ?_, fun a' W' hC hF => ?_, fun a' W' hC hF => ?_, fun a' W' hC hF => ?_, fun a' W' hC hF => ?_, fun a' W' hC hF => ?_, fun a' W' hC hF => ?_, fun a' W' hC hF => ?_, fun a' W' hC hF => ?_, trivial⟩ ?_
    · exact Tl.sm_v 92 _ rfl (Tl.wanted_none rfl) hC rfl (rn_move rfl ((hF 0 (by decide +kernel)).2 (by decide)))
    · exact Tl.sm_v 93 _ rfl (Tl.wanted_none rfl) hC rfl (rn_nilCheck rfl ((hF 92 (by decide +kernel)).1 (by decide)))
    · exact Tl.sm_v 94 _ rfl (Tl.wanted_none rfl) hC rfl (rn_f79_0 rfl ((hF 93 (by decide +kernel)).1 (by decide)))
    · exact Tl.sm_v 95 _ rfl (Tl.wanted_none rfl) hC rfl (rn_load45 rfl ((hF 94 (by decide +kernel)).1 (by decide)) (BelW.cell hC (p := ⟨b, 0, none⟩) hlb k2))
    · exact Tl.sm_v 96 _ rfl (Tl.wanted_none rfl) hC rfl (rn_f32_2 rfl ((hF 3 (by decide +kernel)).2 (by decide)))
    · exact Tl.sm_v 97 _ rfl (Tl.wanted_none rfl) hC rfl (rn_load3 rfl ((hF 96 (by decide +kernel)).1 (by decide)) (BelW.cell hC (p := ⟨w.heap.size, 2, none⟩) hlB x2))
    · exact Tl.sm_v 98 _ rfl (Tl.wanted_none rfl) hC rfl (rn_move rfl ((hF 0 (by decide +kernel)).2 (by decide)))
    · exact Tl.sm_v 99 _ rfl (Tl.wanted_none rfl) hC rfl (rn_nilCheck rfl ((hF 98 (by decide +kernel)).1 (by decide)))
    · exact Tl.sm_v 100 _ rfl (Tl.wanted_none rfl) hC rfl (rn_f79_0 rfl ((hF 99 (by decide +kernel)).1 (by decide)))
    · exact Tl.sm_v 101 _ rfl (Tl.wanted_none rfl) hC rfl (rn_load45 rfl ((hF 100 (by decide +kernel)).1 (by decide)) (BelW.cell hC (p := ⟨b, 0, none⟩) hlb k2))
    · exact Tl.sm_v 102 _ rfl (Tl.wanted_none rfl) hC rfl (rn_len45 rfl ((hF 101 (by decide +kernel)).1 (by decide)) )
    · exact Tl.sm_v 103 _ rfl (Tl.wanted_none rfl) hC rfl (rn_rem3 rfl ((hF 97 (by decide +kernel)).1 (by decide)) ((hF 102 (by decide +kernel)).1 (by decide)) hn0)
    · exact Tl.sm_v 104 _ rfl (Tl.wanted_none rfl) hC rfl (rn_ix45 rfl ((hF 95 (by decide +kernel)).1 (by decide)) ((hF 103 (by decide +kernel)).1 (by decide)) hnl)
    · exact Tl.sm_v 105 _ rfl (Tl.wanted_none rfl) hC rfl (rn_load28 rfl ((hF 104 (by decide +kernel)).1 (by decide)) (BelW.cell hC (p := ⟨gg, n % L * 2, none⟩) hlg e0) (BelW.cell hC (p := ⟨gg, n % L * 2 + 1, none⟩) hlg e1))
    · refine Tl.sm_w _ (Tl.wanted_none rfl) (rn_alloc28 rfl) (Below.alloc hC hC.size _) (fun d v _ hf => rbF4_below hf (boxed _ _)) fun d hd => ?_
      cases hd
      exact ⟨W'.heap.size, rfl, hC.size, Has.new _ _ _ _ rfl⟩
    intro v w7 hw7 hv
    obtain ⟨q, v5, hq, hHq⟩ : ∃ q, v 5 = .pointer (some ⟨q, 0, none⟩) ∧ W6.heap.size ≤ q ∧ Has w7 q #[.string ⟨#[]⟩, .string ⟨#[]⟩] 35 := hv 5 (by decide)
    have v105 : v 105 = .agg #[.string p.1, .string p.2] := hv 105 (by decide)
    have HB7 := hid hw7
    have hpd : p.2.size ≤ 65536 := hdt p (by rw [← HM.out]; exact stk_mem HP.out)
    obtain ⟨j0, j1, j2, j3⟩ := two_cells hHq
    have HH8 := hid (show Has ((w7.setCell ⟨q, 0, none⟩ (.string p.1)).setCell ⟨q, 1, none⟩ (.string p.2)) q #[.string p.1, .string p.2] 35 from (hHq.set 0 _).set 1 _)
    have HB8 := hid (show Below W6.heap.size W6 ((w7.setCell ⟨q, 0, none⟩ (.string p.1)).setCell ⟨q, 1, none⟩ (.string p.2)) from (Below.setCell HB7.out (p := ⟨q, 0, none⟩) hq _).setCell (p := ⟨q, 1, none⟩) hq _)
    have HS6 := hid hs6
    have HO6 := hid ho6
    have HI6 := hid hi6
    have HQ := hid hq
    clear hv hw7 e0 e1 hi6 hs6 ho6 hdt hHq hq
    simp only [Tl.fill, List.drop_succ_cons, List.drop_zero]
    simp only [Act.put, List.setIfInBounds_toArray, List.set_cons_succ, List.set_cons_zero, v5, v105]
    clear v5 v105
    have y8 : ((w7.setCell ⟨q, 0, none⟩ (.string p.1)).setCell ⟨q, 1, none⟩ (.string p.2)).cell? ⟨q, 1, none⟩ = some (.string p.2) := HH8.out.cell 1
    have y3 : ((w7.setCell ⟨q, 0, none⟩ (.string p.1)).setCell ⟨q, 1, none⟩ (.string p.2)).cell? ⟨w.heap.size, 3, none⟩ = some (.int .i64 (a : Int)) := by rw [HB8.out.cell (p := ⟨w.heap.size, 3, none⟩) hlB]; exact x3
    by_cases hz : p.2.size = 0
    · have q6 : (p.2.toList == []) = true := by
        have e : p.2.data.toList = [] := List.eq_nil_of_length_eq_zero (by rw [← Lib.size_eq]; exact hz)
        rw [Lib.toList_data, e]; rfl
      have HE := hid (show bendR r n a c = { r with good := M, writes := [] } from by unfold bendR; rw [← HM.out, HP.out]; simp only; rw [if_pos hz])
      clear hz x2 x3 x4 k2 y3
      go_wp2_with fail
      go_ret
      rw [HE.out]
      exact ⟨rfl, HA.out.next HB8.out⟩
    · have q6 : (p.2.toList == []) = false := by
        rw [Lib.toList_data, beq_eq_false_iff_ne]
        intro e
        apply hz
        rw [Lib.size_eq, e]; rfl
      have q7 : ((p.2.size : Int) == 0) = false := beq_eq_false_iff_ne.2 (by omega)
      have q8 : (a : Int).tmod (p.2.size : Int) = ((a % p.2.size : Nat) : Int) := by rw [Int.tmod_eq_emod_of_nonneg (by omega)]; rfl
      have hkd : a % p.2.size < p.2.size := Nat.mod_lt _ (by omega)
      have HE := hid (show bendR r n a c = { r with good := put (p.1, bent p.2 a c) M, writes := [] } from by unfold bendR; rw [← HM.out, HP.out]; simp only; rw [if_neg hz])
      have HBT := hid (bent_is p.2 a c hz hc)
      clear x2 x3
      go_wp2_with fail
      obtain ⟨W8, hW8⟩ : ∃ W8, W8 = (w7.setCell ⟨q, 0, none⟩ (.string p.1)).setCell ⟨q, 1, none⟩ (.string p.2) := ⟨_, rfl⟩
      rw [← hW8]
      rw [← hW8] at HH8 HB8
      have o1 : W8.cell? ⟨q, 1, none⟩ = some (.string p.2) := HH8.out.cell 1
      have hlq : q < W8.heap.size := HH8.out.lt
      have hlB8 : w.heap.size < W8.heap.size := Nat.lt_of_lt_of_le hlB HB8.out.size
      have x4 : W8.cell? ⟨w.heap.size, 4, none⟩ = some (.int .i64 (c : Int)) := by rw [HB8.out.cell (p := ⟨w.heap.size, 4, none⟩) hlB]; exact x4
      clear hW8 y8 y3 j0 j1 j2 j3 q7 q8
      refine Tl.wp_mix_lit (by kernel_rfl) 16 [115, 116, 117, 118, 119, 120, 121, 122, 123, 124, 125, 126, 127, 128, 129, 130] 165 rfl (by kernel_rfl) (BelW W8) (rbF7 q w.heap.size (a % p.2.size) c p.2 W8.heap.size) ((Below.refl _ _).drew)
        ⟨fun a' W' hC hF => ?_, fun a' W' hC hF => ?_, fun a' W' hC hF => ?_, fun a' W' hC hF => ?_, fun a' W' hC hF => ?_, fun a' W' hC hF => ?_, fun a' W' hC hF => ?_, fun a' W' hC hF => ?_, fun a' W' hC hF => ?_, fun a' W' hC hF => ?_, fun a' W' hC hF => ?_, fun a' W' hC hF => ?_, fun a' W' hC hF => ?_, fun a' W' hC hF => ?_, fun a' W' hC hF => ?_, fun a' W' hC hF => ?_, trivial⟩ ?_
      · exact Tl.sm_v 115 _ rfl (Tl.wanted_none rfl) hC rfl (rn_f28_1 rfl ((hF 5 (by decide +kernel)).2 (by decide)))
      · exact Tl.sm_v 116 _ rfl (Tl.wanted_none rfl) hC rfl (rn_load9 rfl ((hF 115 (by decide +kernel)).1 (by decide)) (BelW.cell hC (p := ⟨q, 1, none⟩) hlq o1))
      · exact Tl.sm_v 117 _ rfl (Tl.wanted_none rfl) hC rfl (rn_move rfl ((hF 6 (by decide +kernel)).2 (by decide)))
      · exact Tl.sm_v 118 _ rfl (Tl.wanted_none rfl) hC rfl (rn_sl9 rfl ((hF 116 (by decide +kernel)).1 (by decide)) ((hF 117 (by decide +kernel)).1 (by decide)) (Nat.le_of_lt hkd))
      · exact Tl.sm_v 119 _ rfl (Tl.wanted_none rfl) hC rfl (rn_f32_4 rfl ((hF 3 (by decide +kernel)).2 (by decide)))
      · exact Tl.sm_v 120 _ rfl (Tl.wanted_none rfl) hC rfl (rn_load3 rfl ((hF 119 (by decide +kernel)).1 (by decide)) (BelW.cell hC (p := ⟨w.heap.size, 4, none⟩) hlB8 x4))
      · exact Tl.sm_v 121 _ rfl (Tl.wanted_none rfl) hC rfl (rn_c35 rfl ((hF 120 (by decide +kernel)).1 (by decide)) ⟨by omega, by omega⟩)
      · refine Tl.sm_w _ (Tl.wanted_none rfl) (rn_bs68 rfl ((hF 121 (by decide +kernel)).1 (by decide))) (Below.alloc hC hC.size _) (fun d v _ hf => rbF7_below hf (boxed _ _)) fun d hd => ?_
        cases hd
        exact ⟨W'.heap.size, rfl, hC.size, Has.new _ _ _ _ rfl⟩
      · obtain ⟨ga, e122, _, hHas⟩ : ∃ g, a'.tmps.getD 122 undef = .slice (some ⟨g, 0, none⟩) 1 1 ∧ W8.heap.size ≤ g ∧ Has W' g #[.int .u8 (c : Int)] 5 := (hF 122 (by decide +kernel)).1 (by decide)
        exact Tl.sm_v 123 _ rfl (Tl.wanted_none rfl) hC rfl (rn_c689 rfl e122 hHas)
      · exact Tl.sm_v 124 _ rfl (Tl.wanted_none rfl) hC rfl (rn_add9 rfl ((hF 118 (by decide +kernel)).1 (by decide)) ((hF 123 (by decide +kernel)).1 (by decide)) (by rw [ofBs_size, ByteArray.size_extract]; simp; omega))
      · exact Tl.sm_v 125 _ rfl (Tl.wanted_none rfl) hC rfl (rn_f28_1 rfl ((hF 5 (by decide +kernel)).2 (by decide)))
      · exact Tl.sm_v 126 _ rfl (Tl.wanted_none rfl) hC rfl (rn_load9 rfl ((hF 125 (by decide +kernel)).1 (by decide)) (BelW.cell hC (p := ⟨q, 1, none⟩) hlq o1))
      · exact Tl.sm_v 127 _ rfl (Tl.wanted_none rfl) hC rfl (rn_move rfl ((hF 6 (by decide +kernel)).2 (by decide)))
      · exact Tl.sm_v 128 _ rfl (Tl.wanted_none rfl) hC rfl (rn_add3 rfl ((hF 127 (by decide +kernel)).1 (by decide)) rfl (wrapN (b := 1) (by omega)))
      · exact Tl.sm_v 129 _ rfl (Tl.wanted_none rfl) hC rfl (rn_sl9b rfl ((hF 126 (by decide +kernel)).1 (by decide)) ((hF 128 (by decide +kernel)).1 (by decide)) hkd)
      · exact Tl.sm_v 130 _ rfl (Tl.wanted_none rfl) hC rfl (rn_add9 rfl ((hF 124 (by decide +kernel)).1 (by decide)) ((hF 129 (by decide +kernel)).1 (by decide)) (by rw [ByteArray.size_append, ofBs_size, ByteArray.size_extract, ByteArray.size_extract]; simp; omega))
      intro v w9 hw9 hv
      have v130 : v 130 = .string (p.2.extract 0 (a % p.2.size) ++ ofBs [c] ++ p.2.extract (a % p.2.size + 1) p.2.size) := hv 130 (by decide)
      rw [HBT.out] at v130
      have hH9 : Has w9 q #[.string p.1, .string p.2] 35 := HH8.out.below hw9 hlq
      have y9 := hH9.cell 1
      have z9 := hH9.frozen 1
      have HH9 := hid (show Has (w9.setCell ⟨q, 1, none⟩ (.string (bent p.2 a c))) q #[.string p.1, .string (bent p.2 a c)] 35 from hH9.set 1 _)
      have HB9 := hid (show Below W6.heap.size W6 (w9.setCell ⟨q, 1, none⟩ (.string (bent p.2 a c))) from (Below.trans HB8.out ((show Below W8.heap.size W8 w9 from hw9).mono HB8.out.size)).setCell (p := ⟨q, 1, none⟩) HQ.out _)
      clear hv hw9 hH9 o1 x4 HH8 HB8 HBT
      simp only [Tl.fill, List.drop_succ_cons, List.drop_zero]
      simp only [Act.put, List.setIfInBounds_toArray, List.set_cons_succ, List.set_cons_zero, v130]
      clear v130
      go_wp2_with fail
      obtain ⟨W9, hW9⟩ : ∃ W9, W9 = w9.setCell ⟨q, 1, none⟩ (.string (bent p.2 a c)) := ⟨_, rfl⟩
      rw [← hW9]
      rw [← hW9] at HH9 HB9
      have o0 : W9.cell? ⟨q, 0, none⟩ = some (.string p.1) := HH9.out.cell 0
      have o1 : W9.cell? ⟨q, 1, none⟩ = some (.string (bent p.2 a c)) := HH9.out.cell 1
      have hlq9 : q < W9.heap.size := HH9.out.lt
      have hlb9 : b < W9.heap.size := Nat.lt_of_lt_of_le hlb HB9.out.size
      have k9 : W9.cell? ⟨b, 0, none⟩ = some (.slice (some ⟨gg, 0, none⟩) L vc) := by rw [HB9.out.cell (p := ⟨b, 0, none⟩) hlb]; exact k2
      have HR9 := hid (row_below HR3.out HB9.out)
      clear hW9 y9 z9 k2
      refine Tl.wp_mix_lit (by kernel_rfl) 9 [132, 133, 134, 135, 136, 137, 138, 139, 140] 165 rfl (by kernel_rfl) (BelW W9) (rbF8 b (.slice (some ⟨gg, 0, none⟩) L vc) (p.1, bent p.2 a c) M W9.heap.size) ((Below.refl _ _).drew)
        ⟨fun a' W' hC hF => ?_, fun a' W' hC hF => ?_, fun a' W' hC hF => ?_, fun a' W' hC hF => ?_, fun a' W' hC hF => ?_, fun a' W' hC hF => ?_, fun a' W' hC hF => ?_, fun a' W' hC hF => ?_, fun a' W' hC hF => ?_, trivial⟩ ?_
      · exact Tl.sm_v 132 _ rfl (Tl.wanted_none rfl) hC rfl (rn_move rfl ((hF 0 (by decide +kernel)).2 (by decide)))
      · exact Tl.sm_v 133 _ rfl (Tl.wanted_none rfl) hC rfl (rn_move rfl ((hF 0 (by decide +kernel)).2 (by decide)))
      · exact Tl.sm_v 134 _ rfl (Tl.wanted_none rfl) hC rfl (rn_nilCheck rfl ((hF 133 (by decide +kernel)).1 (by decide)))
      · exact Tl.sm_v 135 _ rfl (Tl.wanted_none rfl) hC rfl (rn_f79_0 rfl ((hF 134 (by decide +kernel)).1 (by decide)))
      · exact Tl.sm_v 136 _ rfl (Tl.wanted_none rfl) hC rfl (rn_load45 rfl ((hF 135 (by decide +kernel)).1 (by decide)) (BelW.cell hC (p := ⟨b, 0, none⟩) hlb9 k9))
      · exact Tl.sm_v 137 _ rfl (Tl.wanted_none rfl) hC rfl (rn_load28 rfl ((hF 5 (by decide +kernel)).2 (by decide)) (BelW.cell hC (p := ⟨q, 0, none⟩) hlq9 o0) (BelW.cell hC (p := ⟨q, 1, none⟩) hlq9 o1))
      · refine Tl.sm_call 78 #[.slice (some ⟨gg, 0, none⟩) L vc, .agg #[.string p.1, .string (bent p.2 a c)]] (Tl.wanted_none rfl) (rn_call2 rfl rfl ((hF 136 (by decide +kernel)).1 (by decide)) ((hF 137 (by decide +kernel)).1 (by decide)) (enter71 _)) ((refPut_any (show W'.ownsRow _ 35 2 _ M.length (objCells M) from by rw [HL.out]; exact row_below HR9.out hC) (by rw [HL.out]; exact hml) p.1 (bent p.2 a c)).mono ?_)
        rintro e w'' ⟨v, rfl, hr, b1⟩
        exact ⟨v, rfl, Below.trans hC (b1.mono hC.size), fun d v _ h => rbF8_below h b1, fun d hd => by cases hd; exact row_base hr hC.size⟩
      · exact Tl.sm_v 139 _ rfl (Tl.wanted_none rfl) hC rfl (rn_nilCheck rfl ((hF 132 (by decide +kernel)).1 (by decide)))
      · exact Tl.sm_v 140 _ rfl (Tl.wanted_none rfl) hC rfl (rn_f79_0 rfl ((hF 139 (by decide +kernel)).1 (by decide)))
      intro v wA hwA hv
      have h138 : wA.ownsRow W9.heap.size 35 2 (v 138) (put (p.1, bent p.2 a c) M).length (objCells (put (p.1, bent p.2 a c) M)) := hv 138 (by decide)
      have v140 : v 140 = .pointer (some ⟨b, 0, none⟩) := hv 140 (by decide)
      obtain ⟨ua, uc, hve⟩ := row_slice h138
      rw [hve] at h138
      have hb69 := Below.trans HB9.out ((show Below W9.heap.size W9 wA from hwA).mono HB9.out.size)
      have HF := hid (rf_good HI6.out hb69 (row_base h138 HB9.out.size))
      have hst7 := HG2.out.below hb69 HG2.out.lt
      have y1 := hst7.cell 0
      have y2 := hst7.frozen 0
      clear hv hwA hst7 h138 o0 o1 k9 HH9 HB9 HR9 hb69
      simp only [Tl.fill, List.drop_succ_cons, List.drop_zero]
      simp only [Act.put, List.setIfInBounds_toArray, List.set_cons_succ, List.set_cons_zero, hve, v140]
      clear hve v140
      generalize (put (p.1, bent p.2 a c) M).length = D at *
      go_wp2_with fail
      go_ret
      rw [HE.out]
      exact ⟨rfl, AfterR.trans HS6.out HO6.out HF.out⟩
/-- the document's Strike -/
theorem refStrike_any {w : World} {S : Nat → Prop} {b : Nat} {r : Rf} (h : IsRf w S b r) (hN : r.good.length + r.writes.length ≤ 1000000) (hdt : ∀ p ∈ seenR r, p.2.size ≤ 65536) (k t n a c : Int) (hn : n < 9223372036854775808) (ha : a < 9223372036854775808) : Calls Tryz.prog 74 #[ptr b, fv k t n a c] w fun e w' => e = .returned (er (strikeR r k n a c).1) ∧ AfterR w w' S b (strikeR r k n a c).2 := by
  unfold strikeR
  by_cases hb : badF k n a c = true
  · rw [if_pos hb]
    exact (rstrike_bad b k t n a c hb w).mono fun e w' ⟨h1, h2⟩ => ⟨h1, AfterR.of_below h h2⟩
  · rw [if_neg hb]
    unfold badF badN at hb
    simp only [Bool.or_eq_true, decide_eq_true_eq, not_or] at hb
    obtain ⟨n', rfl⟩ := Int.eq_ofNat_of_zero_le (show 0 ≤ n by omega)
    obtain ⟨a', rfl⟩ := Int.eq_ofNat_of_zero_le (show 0 ≤ a by omega)
    obtain ⟨c', rfl⟩ := Int.eq_ofNat_of_zero_le (show 0 ≤ c by omega)
    have hk : k = 1 ∨ k = 2 ∨ k = 3 ∨ k = 4 ∨ k = 5 ∨ k = 6 ∨ k = 7 := by omega
    rcases hk with rfl | rfl | rfl | rfl | rfl | rfl | rfl
    · exact rstrike_wipe h hN t n' a' c' (by omega)
    · exact rstrike_lose h hN t n' a' c' (by omega) (by omega)
    · exact rstrike_bend h hN hdt t n' a' c' (by omega) (by omega) (by omega)
    · exact rstrike_rest h 4 (by simp) t n' a' c' (by omega)
    · exact rstrike_rest h 5 (by simp) t n' a' c' (by omega)
    · exact rstrike_rest h 6 (by simp) t n' a' c' (by omega)
    · exact rstrike_rest h 7 (by simp) t n' a' c' (by omega)
end Go.Proofs.YtgdiaflikfdnaaaGreat
