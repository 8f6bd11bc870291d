/- The program's world: Copy. -/
import Derived.Test.YtmpgfpmkmgebdaaGreatDoorWW10
import Derived.Test.YtmpgfpmkmgebdaaGreatDoorFSMix
namespace Go.Proofs.YtmpgfpmkmgebdaaGreatDoor.W
open Go.RowKit Go.Maps
variable {w w' w1 w2 : World} {S : Nat → Prop} {b g : Nat} {W W' : Wd}
theorem rn_app60 {ops : Array Oper} {rest : List Oper} {o : Oper} {a : Act} {w w' : World} {Q : Exit → Act → World → Prop} {u v r : Value} (hgd : o.guard = none) (s x : Operand) (ho : o.op = .call { callee := .builtin .append, args := #[s, x], argTypes := #[60, 60] }) (hs : a.eval s = u) (hx : a.eval x = v) (hr : (Builtin.append_ #[60, 60] o.type #[u, v]).run Tryz.prog w = .ok r w') (h : wpList Tryz.prog ops Q rest (a.put o.dst r) w') : wpList Tryz.prog ops Q (o :: rest) a w := by
  refine wpList_plain hgd fun K hK => ?_
  unfold Oper.wp execOp
  simp only [ho, resolve, invoke, builtin, Sem.run_bind, Sem.run_pure, Result.andThen_ok, List.map_toArray, List.map_cons, List.map_nil, hs, hx, hr]
  exact hK _ _ h
theorem kcells_one (l : List Kp) : ∀ u ∈ l.flatMap kcells, u.oneCell' = true := fun u hu => by
  obtain ⟨p, _, hp⟩ := List.mem_flatMap.1 hu
  simp [kcells, ptr] at hp
  rcases hp with rfl | rfl <;> rfl
set_option maxRecDepth 20000 in
theorem clone_any60 {n cap : Nat} {l : List Kp} (h : w.ownsRow 0 66 2 (.slice (some ⟨g, 0, none⟩) n cap) n (l.flatMap kcells)) (hn : 0 < n) (hn2 : n ≤ 1000) : Calls Tryz.prog 58 #[.slice (some ⟨g, 0, none⟩) n cap] w fun e w' => ∃ g' cap', e = .returned (.slice (some ⟨g', 0, none⟩) n cap') ∧ w'.ownsRow w.heap.size 66 2 (.slice (some ⟨g', 0, none⟩) n cap') n (l.flatMap kcells) ∧ Below w.heap.size w w' := by
  have hr0 : (w.alloc (.cells #[] 66)).ownsRow w.heap.size 66 2 (.slice (some ⟨w.heap.size, 0, none⟩) 0 0) 0 [] := ⟨rfl, .inr ⟨w.heap.size, 0, #[], rfl, Nat.le_refl _, Has.new _ _ _ _ rfl, Nat.le_refl _, by unfold maxLen; omega, rfl, rfl⟩⟩
  obtain ⟨g', cap', w', r1, r2, r3, _, _⟩ := run_app2 el66 (w.alloc (.cells #[] 66)) 60 w.heap.size _ 0 [] hr0 ⟨g, 0, none⟩ n cap (l.flatMap kcells) hn h.1 (fun j u hu => by
    have e : (⟨g, 0, none⟩ : Addr).add j = ⟨g, j, none⟩ := by unfold Addr.add; split <;> simp_all
    have hj : j < (l.flatMap kcells).length := (List.getElem?_eq_some_iff.1 hu).1
    rw [e, (h.alloc _).cellAt j (by rw [← h.1]; exact hj)]
    exact hu) (kcells_one l) (by omega) (by simp)
  rw [Nat.zero_add] at r1 r2
  rw [List.nil_append] at r2
  have HR := hid r2
  have HB := hid (show Below w.heap.size w w' from (boxed w _).grown r3 (by simp) fun k hk => by simp [Value.ownBlock] at hk; omega)
  have hnil : (binOp .eql 60 (.slice (some ⟨g, 0, none⟩) n cap) (.slice none 0 0)).run Tryz.prog w = .ok (.bool false) w := by kernel_rfl
  clear h hr0 r2 r3
  go_enter Tryz.func58, Tryz.ntmps58
  go_wp2_with (at_builtin; refine rn_app60 rfl _ _ rfl rfl rfl r1 ?_)
  go_ret
  exact ⟨g', cap', rfl, HR.out, HB.out⟩
def cpF (B g' cap' b g cap L k : Nat) (x : Kp) (Z : Nat) (i : Nat) (v : Value) (W : World) : Prop := match i with
  | 22 => v = .pointer (some ⟨B, 0, none⟩) | 23 => v = .slice (some ⟨g', 0, none⟩) L cap' | 24 => v = .int .i64 (k : Int) | 29 => v = .int .i64 (k : Int)
  | 25 => v = .pointer (some ⟨b, 0, none⟩) | 26 => v = .pointer (some ⟨b, 0, none⟩) | 27 => v = .pointer (some ⟨b, 0, none⟩)
  | 28 => v = .slice (some ⟨g, 0, none⟩) L cap | 30 => v = .pointer (some ⟨g, k * 2, none⟩) | 31 => v = .pointer (some ⟨g, k * 2, none⟩) | 32 => v = .pointer (some ⟨x.blk, 0, none⟩)
  | 33 => ∃ (q : Nat) (T : Nat → Prop), v = ptr q ∧ IsSt W T q x.st ∧ ∀ i, T i → Z ≤ i
  | 34 => v = .pointer (some ⟨g', k * 2, none⟩) | 35 => v = .pointer (some ⟨g', k * 2, none⟩)
  | _ => True
theorem cpF_below {B g' cap' b g cap L k : Nat} {x : Kp} {Z i : Nat} {v : Value} {W W' : World} (h : cpF B g' cap' b g cap L k x Z i v W) (hb : Below W.heap.size W W') : cpF B g' cap' b g cap L k x Z i v W' := by
  unfold cpF at h ⊢
  split at h
  all_goals first
    | exact h
    | (obtain ⟨q, T, e1, e2, e3⟩ := h; exact ⟨q, T, e1, e2.below hb, e3⟩)
theorem enter29b {w : World} (args : Array Value) : (callFunc 59 args).run Tryz.prog w = .ok (.enter 59 args) w := by kernel_rfl
def sameK (l m : List Kp) : Prop := l.map (fun x => (x.st, x.sus)) = m.map (fun x => (x.st, x.sus))
set_option maxHeartbeats 4000000 in
set_option maxRecDepth 20000 in
theorem wcopy_any (h : IsWd w S b g W) (hL : 0 < W.l.length ∧ W.l.length ≤ 1000) (hw : ∀ x ∈ W.l, x.st.writes.length ≤ 1000000) : Calls Tryz.prog 30 #[ptr b] w fun e w' => ∃ b', e = .returned (ptr b') ∧ ∃ g' S' l', IsWd w' S' b' g' { W with l := l' } ∧ sameK l' W.l ∧ (∀ i, S' i → w.heap.size ≤ i) ∧ Below w.heap.size w w' := by
  obtain ⟨cap, ⟨c0, c1, c2, c3, c4⟩, _, hrow⟩ := h.cells
  have HH := hid h
  have HW := hid hw
  have HB1 := hid (boxed w (.cells #[.slice (some ⟨g, 0, none⟩) W.l.length cap, .int .i64 (W.calls : Int), .bool W.dark, .bool W.cut, .int .i64 (W.left : Int)] 62))
  have HX := hid (Has.new w w.heap.size #[.slice (some ⟨g, 0, none⟩) W.l.length cap, .int .i64 (W.calls : Int), .bool W.dark, .bool W.cut, .int .i64 (W.left : Int)] 62 rfl)
  have HCL := clone_any60 (row_below hrow HB1.out) hL.1 hL.2
  have hlb0 : b < w.heap.size := by obtain ⟨_, _, _, _, _, _, h5, _, h7⟩ := h; exact h7 b h5
  have hlg0 : g < w.heap.size := by obtain ⟨_, _, _, _, _, _, _, h6, h7⟩ := h; exact h7 g h6
  have c0' : (w.alloc (.cells #[.slice (some ⟨g, 0, none⟩) W.l.length cap, .int .i64 (W.calls : Int), .bool W.dark, .bool W.cut, .int .i64 (W.left : Int)] 62)).cell? ⟨b, 0, none⟩ = some (.slice (some ⟨g, 0, none⟩) W.l.length cap) := by rw [HB1.out.cell (p := ⟨b, 0, none⟩) hlb0]; exact c0
  clear h hw hrow
  unfold ptr at *
  generalize hLL : W.l.length = L at *
  have HLL := hid hLL
  clear hLL
  go_enter Tryz.func30, Tryz.ntmps30
  go_wp2_with fail
  refine HCL.mono ?_
  clear HCL c0 c1 c2 c3 c4
  rintro z w2 ⟨g', cap', rfl, hr2, hb2⟩
  have hx2 := HX.out.below hb2 HX.out.lt
  have m0 := hx2.cell 0
  have m1 := hx2.frozen 0
  have hx3 := hx2.set 0 (.slice (some ⟨g', 0, none⟩) L cap')
  have hg'n : w.heap.size < g' := by have := (hr2.lt g' rfl).1; simp at this; omega
  have HP := hid (show PreWd (w2.setCell ⟨w.heap.size, 0, none⟩ (.slice (some ⟨g', 0, none⟩) L cap')) (fun i => i = w.heap.size ∨ i = g') w.heap.size g' L cap' #[.int .i64 (W.calls : Int), .bool W.dark, .bool W.cut, .int .i64 (W.left : Int)] [] (W.l.flatMap kcells) from by
    refine ⟨fun _ _ => False, hx3, ?_, fun j x hj => by simp at hj, fun j k hj => by simp at hj, .inl rfl, .inr rfl, fun i hi => ?_⟩
    · rw [List.flatMap_nil, List.nil_append]
      exact row_setb (row_base hr2 (Nat.zero_le _)) hx2 (by decide) 0 _
    · rcases hi with rfl | rfl
      · have := hx2.lt; simpa [World.setCell] using this
      · have := (hr2.lt i rfl).2; simpa [World.setCell] using this)
  have HBB := hid (show Below w.heap.size w (w2.setCell ⟨w.heap.size, 0, none⟩ (.slice (some ⟨g', 0, none⟩) L cap')) from (HB1.out.trans (hb2.mono HB1.out.size)).setCell (p := ⟨w.heap.size, 0, none⟩) (Nat.le_refl _) _)
  have m3 := hx3.cell 0
  clear hx2 hx3 hr2 hb2 HX HB1
  go_wp2_with fail
  clear m0 m1 m3 c0'
  go_loopg [19] L (fun gk s19 wx => ∃ (k : Nat) (S' : Nat → Prop) (l : List Kp), k + gk = L ∧ s19 = .int .i64 (k : Int) ∧ Hid (l.length = k ∧ sameK l (W.l.take k)) ∧ PreWd wx S' w.heap.size g' L cap' #[.int .i64 (W.calls : Int), .bool W.dark, .bool W.cut, .int .i64 (W.left : Int)] l ((W.l.drop k).flatMap kcells) ∧ (∀ i, S' i → w.heap.size ≤ i) ∧ Below w.heap.size w wx)
  case atStart => exact ⟨0, _, [], by omega, rfl, hid ⟨rfl, rfl⟩, HP.out, fun i hi => by rcases hi with h | h <;> omega, HBB.out⟩
  case round =>
    clear HP HBB
    obtain ⟨k, S', l, hk, rfl, HK, hp, hS, hbw⟩ := hrel
    have HPP := hid hp
    have HSS := hid hS
    have HBW := hid hbw
    clear hp hS hbw
    cases gk with
    | zero =>
      have p1 : ¬ ((k : Int) < (L : Int)) := by omega
      have HIW := hid (show IsWd wr S' w.heap.size g' { W with l := l } from by
        have := HPP.out
        rw [List.drop_of_length_le (by rw [HLL.out]; omega)] at this
        exact PreWd.done this rfl (by rw [HK.out.1]; omega) rfl)
      have HSM := hid (show sameK l W.l from by
        have := HK.out.2
        rwa [List.take_of_length_le (by rw [HLL.out]; omega)] at this)
      clear HPP
      go_wp2_with fail
      go_ret
      exact ⟨w.heap.size, rfl, g', S', l, HIW.out, HSM.out, HSS.out, HBW.out⟩
    | succ g1 =>
      have p1 : (k : Int) < (L : Int) := by omega
      have hkn : k < L := by omega
      obtain ⟨x, hx⟩ : ∃ x, W.l[k]? = some x := ⟨_, List.getElem?_eq_getElem (by rw [HLL.out]; exact hkn)⟩
      have hI := HH.out.below HBW.out
      obtain ⟨cap2, ⟨c0, _, _, _, _⟩, _, _⟩ := hI.cells
      rw [HLL.out] at c0
      obtain ⟨k0, _, _⟩ := hI.kept hx
      have HCP : Hid (∀ W2, BelW wr W2 → Calls Tryz.prog 59 #[.pointer (some ⟨x.blk, 0, none⟩)] W2 fun e w' => ∃ (q : Nat) (T : Nat → Prop), e = .returned (ptr q) ∧ IsSt w' T q x.st ∧ (∀ i, T i → W2.heap.size ≤ i) ∧ Below W2.heap.size W2 w') := hid fun W2 hW2 => by
        obtain ⟨T, t1, _, _⟩ := (hI.below hW2).call hx
        exact copy_any t1 (HW.out x (List.mem_of_getElem? hx))
      obtain ⟨_, h1, hrow, _⟩ := HPP.out
      have d0 : wr.cell? ⟨w.heap.size, 0, none⟩ = some (.slice (some ⟨g', 0, none⟩) L cap') := h1.cell 0
      have hlB : w.heap.size < wr.heap.size := h1.lt
      have hlb : b < wr.heap.size := Nat.lt_of_lt_of_le hlb0 HBW.out.size
      have hlg : g < wr.heap.size := Nat.lt_of_lt_of_le hlg0 HBW.out.size
      have HDR := hid (show W.l.drop k = x :: W.l.drop (k + 1) from by
        rw [List.drop_eq_getElem_cons (by rw [HLL.out]; exact hkn)]
        congr 1
        exact (List.getElem?_eq_some_iff.1 hx).2)
      have HTK := hid (show W.l.take (k + 1) = W.l.take k ++ [x] from by rw [List.take_add_one, hx]; rfl)
      unfold ptr at k0
      clear hx hI h1
      go_wp2_with fail
      refine Tl.wp_mix_lit (by kernel_rfl) 14 [22, 23, 24, 25, 26, 27, 28, 29, 30, 31, 32, 33, 34, 35] 37 rfl (by kernel_rfl) (BelW wr) (cpF w.heap.size g' cap' b g cap2 L k x wr.heap.size) ((Below.refl _ _).drew)
        ⟨fun a' W' hC hF => ?_, fun a' W' hC hF => ?_, fun a' W' hC hF => ?_, fun a' W' hC hF => ?_, fun a' W' hC hF => ?_, fun a' W' hC hF => ?_, fun a' W' hC hF => ?_, fun a' W' hC hF => ?_, fun a' W' hC hF => ?_, fun a' W' hC hF => ?_, fun a' W' hC hF => ?_, fun a' W' hC hF => ?_, fun a' W' hC hF => ?_, fun a' W' hC hF => ?_, trivial⟩ ?_
      · exact Tl.sm_v 22 _ rfl (Tl.wanted_none rfl) hC rfl (rn_f62_0 rfl ((hF 3 (by decide +kernel)).2 (by decide)))
      · exact Tl.sm_v 23 _ rfl (Tl.wanted_none rfl) hC rfl (rn_load60 rfl ((hF 22 (by decide +kernel)).1 (by decide)) (BelW.cell hC (p := ⟨w.heap.size, 0, none⟩) hlB d0))
      · exact Tl.sm_v 24 _ rfl (Tl.wanted_none rfl) hC rfl (rn_move rfl ((hF 4 (by decide +kernel)).2 (by decide)))
      · exact Tl.sm_v 25 _ rfl (Tl.wanted_none rfl) hC rfl (rn_move rfl ((hF 0 (by decide +kernel)).2 (by decide)))
      · exact Tl.sm_v 26 _ rfl (Tl.wanted_none rfl) hC rfl (rn_nilCheck rfl ((hF 25 (by decide +kernel)).1 (by decide)))
      · exact Tl.sm_v 27 _ rfl (Tl.wanted_none rfl) hC rfl (rn_f62_0 rfl ((hF 26 (by decide +kernel)).1 (by decide)))
      · exact Tl.sm_v 28 _ rfl (Tl.wanted_none rfl) hC rfl (rn_load60 rfl ((hF 27 (by decide +kernel)).1 (by decide)) (BelW.cell hC (p := ⟨b, 0, none⟩) hlb c0))
      · exact Tl.sm_v 29 _ rfl (Tl.wanted_none rfl) hC rfl (rn_move rfl ((hF 4 (by decide +kernel)).2 (by decide)))
      · exact Tl.sm_v 30 _ rfl (Tl.wanted_none rfl) hC rfl (rn_ix60 rfl ((hF 28 (by decide +kernel)).1 (by decide)) ((hF 29 (by decide +kernel)).1 (by decide)) hkn)
      · exact Tl.sm_v 31 _ rfl (Tl.wanted_none rfl) hC rfl (rn_f66_0 rfl ((hF 30 (by decide +kernel)).1 (by decide)))
      · exact Tl.sm_v 32 _ rfl (Tl.wanted_none rfl) hC rfl (rn_load63 rfl ((hF 31 (by decide +kernel)).1 (by decide)) (BelW.cell hC (p := ⟨g, k * 2, none⟩) hlg k0))
      · refine Tl.sm_call 59 #[.pointer (some ⟨x.blk, 0, none⟩)] (Tl.wanted_none rfl) (rn_call1 rfl rfl ((hF 32 (by decide +kernel)).1 (by decide)) (enter29b _)) ((HCP.out W' hC).mono ?_)
        rintro e w'' ⟨q, T, rfl, hq1, hq2, b1⟩
        exact ⟨_, rfl, Below.trans hC (b1.mono hC.size), fun d v _ h => cpF_below h b1, fun d hd => by cases hd; exact ⟨q, T, rfl, hq1, fun i hi => Nat.le_trans hC.size (hq2 i hi)⟩⟩
      · exact Tl.sm_v 34 _ rfl (Tl.wanted_none rfl) hC rfl (rn_ix60 rfl ((hF 23 (by decide +kernel)).1 (by decide)) ((hF 24 (by decide +kernel)).1 (by decide)) hkn)
      · exact Tl.sm_v 35 _ rfl (Tl.wanted_none rfl) hC rfl (rn_f66_0 rfl ((hF 34 (by decide +kernel)).1 (by decide)))
      intro v wB hw hv
      obtain ⟨q, T, v33, hq1, hq2⟩ : ∃ (q : Nat) (T : Nat → Prop), v 33 = ptr q ∧ IsSt wB T q x.st ∧ ∀ i, T i → wr.heap.size ≤ i := hv 33 (by decide)
      have v35 : v 35 = .pointer (some ⟨g', k * 2, none⟩) := hv 35 (by decide)
      have HPN := hid (show PreWd (wB.setCell ⟨g', k * 2, none⟩ (ptr q)) (fun i => S' i ∨ T i) w.heap.size g' L cap' #[.int .i64 (W.calls : Int), .bool W.dark, .bool W.cut, .int .i64 (W.left : Int)] (l ++ [⟨q, x.st, x.sus⟩]) ((W.l.drop (k + 1)).flatMap kcells) from by
        have := HPP.out
        rw [HDR.out, List.flatMap_cons] at this
        have h2 := PreWd.push (p := ptr x.blk) (s := x.sus) this hq1 hq2 hw
        rw [HK.out.1] at h2
        exact h2)
      have HSN := hid (show ∀ i, (S' i ∨ T i) → w.heap.size ≤ i from fun i hi => hi.elim (HSS.out i) (fun h => Nat.le_trans HBW.out.size (hq2 i h)))
      have HBN := hid (show Below w.heap.size w (wB.setCell ⟨g', k * 2, none⟩ (ptr q)) from (HBW.out.trans ((show Below wr.heap.size wr wB from hw).mono HBW.out.size)).setCell (p := ⟨g', k * 2, none⟩) (show w.heap.size ≤ g' from by omega) _)
      have HKN := hid (show (l ++ [(⟨q, x.st, x.sus⟩ : Kp)]).length = k + 1 ∧ sameK (l ++ [(⟨q, x.st, x.sus⟩ : Kp)]) (W.l.take (k + 1)) from ⟨by simp [HK.out.1], by
        have := HK.out.2
        unfold sameK at this ⊢
        rw [HTK.out, List.map_append, List.map_append, this]; rfl⟩)
      have hrowB := row_below hrow hw
      have y1 := hrowB.cellAt (k * 2) (by omega)
      have y2 := hrowB.frozenAt (k * 2)
      obtain ⟨u0, hu0⟩ : ∃ u0, (l.flatMap kcells ++ (W.l.drop k).flatMap kcells)[k * 2]? = some u0 := ⟨_, List.getElem?_eq_getElem (by rw [← List.flatMap_append, kflat_len, List.length_append, HK.out.1, List.length_drop, HLL.out]; omega)⟩
      rw [hu0] at y1
      clear hv hw hq1 hq2 hrow hrowB hu0 c0 d0 k0 hlB hlb hlg HPP HSS HBW HK HCP
      simp only [Tl.fill, List.drop_succ_cons, List.drop_zero]
      simp only [Act.put, List.setIfInBounds_toArray, List.set_cons_succ, List.set_cons_zero, v33, v35]
      clear v33 v35
      unfold ptr at *
      go_wp2_with fail
      go_roundg g1
      case measure => omega
      case rel => exact ⟨k + 1, _, _, by omega, by first | rfl | simp, HKN, HPN.out, HSN.out, HBN.out⟩
end Go.Proofs.YtmpgfpmkmgebdaaGreatDoor.W
/- A frame's bytes, and what bytes that Read takes must be. No program in it. -/
namespace Go.Proofs.YtmpgfpmkmgebdaaGreatDoor.F
open Go.RowKit
/-- whether a number may be an epoch or a generation -/
def okN (n : Int) : Bool := decide (0 ≤ n) && decide (n ≤ 2147483647)
/-- whether a frame may be -/
def okF (E G K N : Int) : Bool := okN E && okN G && okC K N
/-- a frame's bytes but for the digest -/
def pre (E G K N : Nat) (p : List Nat) : List Nat := [109, 97, 110, 49] ++ (be4 E ++ be4 G) ++ [K, N] ++ be4 p.length ++ p
/-- a frame's bytes -/
def dat (E G K N : Nat) (p : List Nat) : List Nat := pre E G K N p ++ Sha.digest (pre E G K N p)
/-- a frame, as cells -/
def frc (E G K N : Int) (p : ByteArray) : Array Value := #[.int .i64 E, .int .i64 G, .int .i64 K, .int .i64 N, .string p]
/-- Make's error -/
def mkE (E G K N : Int) (p : ByteArray) : Int := if okF E G K N then (if p.size ≤ 65486 then 0 else 40) else 1
/-- Make's bytes -/
def mkD (E G K N : Int) (p : ByteArray) : ByteArray := if mkE E G K N p = 0 then ofBs (dat E.toNat G.toNat K.toNat N.toNat (bs p)) else ⟨#[]⟩
/-- a byte -/
def fB (s : ByteArray) (j : Nat) : Int := (((bs s).getD j 0 : Nat) : Int)
/-- a number of 4 bytes -/
def n4 (l : List Nat) (j : Nat) : Nat := l.getD j 0 * 16777216 + l.getD (j + 1) 0 * 65536 + l.getD (j + 2) 0 * 256 + l.getD (j + 3) 0
def fN (s : ByteArray) (j : Nat) : Int := ((n4 (bs s) j : Nat) : Int)
def fP (s : ByteArray) : ByteArray := s.extract 18 (s.size - 32)
/-- whether bytes are a frame's -/
def rdOk (s : ByteArray) : Bool := decide (50 ≤ s.size) && (decide (mkE (fN s 4) (fN s 8) (fB s 12) (fB s 13) (fP s) = 0) && decide (mkD (fN s 4) (fN s 8) (fB s 12) (fB s 13) (fP s) = s))
theorem fB_byte (s : ByteArray) (j : Nat) : 0 ≤ fB s j ∧ fB s j < 256 := by
  unfold fB
  have := getD_lt (bs s) 256 (by decide) (bs_lt s) j
  omega
theorem okF_is {E G K N : Int} (h : okF E G K N = true) : ∃ e g k n : Nat, E = e ∧ G = g ∧ K = k ∧ N = n ∧ e < 2147483648 ∧ g < 2147483648 ∧ 1 ≤ k ∧ k ≤ n ∧ n ≤ 12 := by
  unfold okF okN okC at h
  simp only [Bool.and_eq_true, decide_eq_true_eq] at h
  refine ⟨E.toNat, G.toNat, K.toNat, N.toNat, ?_, ?_, ?_, ?_, ?_, ?_, ?_, ?_, ?_⟩ <;> omega
theorem mkE_zero {E G K N : Int} {p : ByteArray} : mkE E G K N p = 0 ↔ okF E G K N = true ∧ p.size ≤ 65486 := by
  unfold mkE
  by_cases h : okF E G K N = true
  · by_cases hp : p.size ≤ 65486
    · simp [h, hp]
    · simp [h, hp]
  · simp [h]
theorem be4_lt (n : Nat) : ∀ x ∈ be4 n, x < 256 := by
  intro x hx
  unfold be4 at hx
  simp only [List.mem_cons, List.not_mem_nil, or_false] at hx
  omega
theorem pre_length (E G K N : Nat) (p : List Nat) : (pre E G K N p).length = 18 + p.length := by
  unfold pre be4; simp; omega
theorem pre_lt {E G K N : Nat} {p : List Nat} (hK : K < 256) (hN : N < 256) (hp : ∀ x ∈ p, x < 256) : ∀ x ∈ pre E G K N p, x < 256 := by
  intro x hx
  unfold pre at hx
  simp only [List.mem_append, List.mem_cons, List.not_mem_nil, or_false] at hx
  rcases hx with (((hx | hx | hx) | hx) | hx) | hx
  · omega
  · exact be4_lt _ x hx
  · exact be4_lt _ x hx
  · omega
  · exact be4_lt _ x hx
  · exact hp x hx
theorem dat_lt {E G K N : Nat} {p : List Nat} (hK : K < 256) (hN : N < 256) (hp : ∀ x ∈ p, x < 256) : ∀ x ∈ dat E G K N p, x < 256 := by
  intro x hx
  unfold dat at hx
  rcases List.mem_append.1 hx with hx | hx
  · exact pre_lt hK hN hp x hx
  · exact digest_lt _ x hx
theorem dat_length (E G K N : Nat) (p : List Nat) : (dat E G K N p).length = 50 + p.length := by
  unfold dat; rw [List.length_append, pre_length, digest_length]; omega
/-- what a frame's head tells -/
theorem pre_tells (E G K N : Nat) (p r : List Nat) : n4 (pre E G K N p ++ r) 4 = n4 (be4 E) 0 ∧ n4 (pre E G K N p ++ r) 8 = n4 (be4 G) 0 ∧ (pre E G K N p ++ r).getD 12 0 = K ∧ (pre E G K N p ++ r).getD 13 0 = N ∧ n4 (pre E G K N p ++ r) 14 = n4 (be4 p.length) 0 ∧ (pre E G K N p ++ r).take 4 = [109, 97, 110, 49] :=
  ⟨rfl, rfl, rfl, rfl, rfl, rfl⟩
theorem n4_be4 {n : Nat} (h : n < 4294967296) : n4 (be4 n) 0 = n := by
  show n / 16777216 % 256 * 16777216 + n / 65536 % 256 * 65536 + n / 256 % 256 * 256 + n % 256 = n
  omega
/-- bytes of a frame that may be -/
structure IsD (e g k n : Nat) (p s : ByteArray) : Prop where
  he : e < 2147483648
  hg : g < 2147483648
  hk : 1 ≤ k
  hkn : k ≤ n
  hn : n ≤ 12
  hp : p.size ≤ 65486
  hs : s = ofBs (dat e g k n (bs p))
theorem IsD.bytes {e g k n : Nat} {p s : ByteArray} (h : IsD e g k n p s) : bs s = dat e g k n (bs p) := by
  rw [h.hs]; exact bs_ofBs _ (dat_lt (by have := h.hkn; have := h.hn; omega) (by have := h.hn; omega) (bs_lt p))
theorem IsD.size {e g k n : Nat} {p s : ByteArray} (h : IsD e g k n p s) : s.size = 50 + p.size := by
  rw [← bs_length, h.bytes, dat_length, bs_length]
theorem IsD.tells {e g k n : Nat} {p s : ByteArray} (h : IsD e g k n p s) : fN s 4 = e ∧ fN s 8 = g ∧ fB s 12 = k ∧ fB s 13 = n ∧ n4 (bs s) 14 = p.size ∧ (bs s).take 4 = [109, 97, 110, 49] := by
  have t := pre_tells e g k n (bs p) (Sha.digest (pre e g k n (bs p)))
  obtain ⟨t1, t2, t3, t4, t5, t6⟩ := t
  have hb : bs s = pre e g k n (bs p) ++ Sha.digest (pre e g k n (bs p)) := h.bytes
  have hp := h.hp
  have he := h.he
  have hg := h.hg
  unfold fN fB
  rw [hb, t1, t2, t3, t4, t5, n4_be4 (by omega), n4_be4 (by omega), n4_be4 (by rw [bs_length]; omega), bs_length]
  exact ⟨rfl, rfl, rfl, rfl, rfl, t6⟩
theorem IsD.body {e g k n : Nat} {p s : ByteArray} (h : IsD e g k n p s) : fP s = p := by
  apply bs_inj
  unfold fP
  rw [bs_extract, h.bytes, h.size]
  have e1 : dat e g k n (bs p) = ([109, 97, 110, 49] ++ (be4 e ++ be4 g) ++ [k, n] ++ be4 (bs p).length) ++ (bs p ++ Sha.digest (pre e g k n (bs p))) := by
    unfold dat pre; simp only [List.append_assoc]
  rw [e1]
  have := mid_take ([109, 97, 110, 49] ++ (be4 e ++ be4 g) ++ [k, n] ++ be4 (bs p).length) (bs p) (Sha.digest (pre e g k n (bs p)))
  have l1 : ([109, 97, 110, 49] ++ (be4 e ++ be4 g) ++ [k, n] ++ be4 (bs p).length).length = 18 := rfl
  rw [l1] at this
  rw [show 50 + p.size - 32 = 18 + (bs p).length by rw [bs_length]; omega]
  exact this
theorem mk_is {E G K N : Int} {p : ByteArray} (h : mkE E G K N p = 0) : ∃ e g k n : Nat, E = e ∧ G = g ∧ K = k ∧ N = n ∧ IsD e g k n p (mkD E G K N p) := by
  obtain ⟨h1, h2⟩ := mkE_zero.1 h
  obtain ⟨e, g, k, n, rfl, rfl, rfl, rfl, q1, q2, q3, q4, q5⟩ := okF_is h1
  refine ⟨e, g, k, n, rfl, rfl, rfl, rfl, q1, q2, q3, q4, q5, h2, ?_⟩
  unfold mkD
  rw [if_pos h]
  simp
theorem IsD.ok {e g k n : Nat} {p s : ByteArray} (h : IsD e g k n p s) : mkE e g k n p = 0 ∧ mkD e g k n p = s := by
  have h0 : mkE (e : Int) g k n p = 0 := by
    obtain ⟨h1, h2, h3, h4, h5, h6, h7⟩ := h
    rw [mkE_zero]
    refine ⟨?_, h6⟩
    unfold okF okN okC
    simp only [Bool.and_eq_true, decide_eq_true_eq]
    omega
  refine ⟨h0, ?_⟩
  unfold mkD
  rw [if_pos h0, h.hs]
  simp
/-- READ OF MAKE is the frame. -/
theorem IsD.read {e g k n : Nat} {p s : ByteArray} (h : IsD e g k n p s) : rdOk s = true := by
  obtain ⟨t1, t2, t3, t4, _⟩ := h.tells
  unfold rdOk
  rw [t1, t2, t3, t4, h.body, h.ok.1, h.ok.2, h.size]
  simp
theorem rd_is {s : ByteArray} (h : rdOk s = true) : ∃ e g k n : Nat, fN s 4 = e ∧ fN s 8 = g ∧ fB s 12 = k ∧ fB s 13 = n ∧ IsD e g k n (fP s) s := by
  unfold rdOk at h
  simp only [Bool.and_eq_true, decide_eq_true_eq] at h
  obtain ⟨e, g, k, n, q1, q2, q3, q4, q5⟩ := mk_is h.2.1
  refine ⟨e, g, k, n, q1, q2, q3, q4, ?_⟩
  rw [h.2.2] at q5
  exact q5
/-- what Read looks at, but for the digest -/
def hdOk (l : List Nat) (len : Nat) : Bool := decide (50 ≤ len) && decide (l.take 4 = [109, 97, 110, 49]) && decide (n4 l 4 < 2147483648) && decide (n4 l 8 < 2147483648) && decide (1 ≤ l.getD 12 0) && decide (l.getD 12 0 ≤ l.getD 13 0) && decide (l.getD 13 0 ≤ 12) && decide (n4 l 14 = len - 50)
theorem rd_head {s : ByteArray} (h : rdOk s = true) : hdOk (bs s) s.size = true := by
  obtain ⟨e, g, k, n, q1, q2, q3, q4, hd⟩ := rd_is h
  obtain ⟨_, _, _, _, t5, t6⟩ := hd.tells
  have h1 := hd.he
  have h2 := hd.hg
  have h3 := hd.hk
  have h4 := hd.hkn
  have h5 := hd.hn
  have h6 := hd.size
  have e1 : n4 (bs s) 4 = e := Int.ofNat_inj.mp q1
  have e2 : n4 (bs s) 8 = g := Int.ofNat_inj.mp q2
  have e3 : (bs s).getD 12 0 = k := Int.ofNat_inj.mp q3
  have e4 : (bs s).getD 13 0 = n := Int.ofNat_inj.mp q4
  clear q1 q2 q3 q4 hd
  unfold hdOk
  rw [t5, t6, e1, e2, e3, e4, h6]
  clear t5 t6 e1 e2 e3 e4 h6 h
  generalize (fP s).size = m
  have e5 : m = 50 + m - 50 := by omega
  have e6 : 50 ≤ 50 + m := by omega
  simp only [h1, h2, h3, h4, h5, e6, ← e5, decide_true, Bool.and_self]
theorem getD_take (l : List Nat) (j k : Nat) (h : j < k) : (l.take k).getD j 0 = l.getD j 0 := by
  rw [List.getD_eq_getElem?_getD, List.getD_eq_getElem?_getD, List.getElem?_take_of_lt h]
theorem n4_take (l : List Nat) (j k : Nat) (h : j + 3 < k) : n4 (l.take k) j = n4 l j := by
  unfold n4
  rw [getD_take l _ _ (by omega), getD_take l _ _ (by omega), getD_take l _ _ (by omega), getD_take l _ _ (by omega)]
/-- two texts that begin alike and have not the same length are not both a frame's -/
theorem rd_cut {s t : ByteArray} (h : rdOk s = true) (ht : (bs t).take 18 = (bs s).take 18) (hne : t.size ≠ s.size) : rdOk t = false := by
  cases hr : rdOk t with
  | false => rfl
  | true =>
    have h1 := rd_head h
    have h2 := rd_head hr
    unfold hdOk at h1 h2
    simp only [Bool.and_eq_true, decide_eq_true_eq] at h1 h2
    have e1 : n4 (bs t) 14 = n4 (bs s) 14 := by rw [← n4_take (bs t) 14 18 (by omega), ht, n4_take (bs s) 14 18 (by omega)]
    have a1 := h1.1.1.1.1.1.1.1
    have a2 := h2.1.1.1.1.1.1.1
    have b1 := h1.2
    have b2 := h2.2
    omega
theorem rd_short {s : ByteArray} (h : rdOk s = true) (k : Nat) (hk : k < s.size) : rdOk (s.extract 0 k) = false := by
  have h1 := rd_head h
  unfold hdOk at h1
  simp only [Bool.and_eq_true, decide_eq_true_eq] at h1
  have hz : (s.extract 0 k).size = k := by rw [ByteArray.size_extract]; omega
  by_cases hk2 : k < 18
  · cases hr : rdOk (s.extract 0 k) with
    | false => rfl
    | true =>
      have h2 := rd_head hr
      unfold hdOk at h2
      simp only [Bool.and_eq_true, decide_eq_true_eq] at h2
      have := h2.1.1.1.1.1.1.1
      omega
  · refine rd_cut h ?_ (by omega)
    rw [bs_extract, List.drop_zero, List.take_take, Nat.min_eq_left (by omega)]
/-- what Read tells -/
def noF : Array Value := frc 0 0 0 0 ⟨#[]⟩
def rdV (s : ByteArray) : Value := if rdOk s then .tuple #[.agg (frc (fN s 4) (fN s 8) (fB s 12) (fB s 13) (fP s)), .int .i64 0] else .tuple #[.agg noF, .int .i64 4]
/-- which stamp is less -/
def lessB (a b c d : Int) : Bool := decide (a < c) || (decide (a = c) && decide (b < d))
end Go.Proofs.YtmpgfpmkmgebdaaGreatDoor.F
