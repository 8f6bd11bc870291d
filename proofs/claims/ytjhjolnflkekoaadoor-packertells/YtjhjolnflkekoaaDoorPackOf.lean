/- The contract of packOf: the pack of chunks that may be one. -/
import Derived.Test.YtjhjolnflkekoaaDoorOps
import Derived.Deep.RegionWith
namespace Go.Proofs.YtjhjolnflkekoaaDoor
open Go.RowKit Go.Maps
open Pk
set_option linter.unusedVariables false
/-- what the slots hold while a pack is laid out -/
def pkF (lo n : Nat) (A : Option Addr) (cap : Nat) (B D : ByteArray) (d : Nat) (v : Value) (W : World) : Prop := match d with
  | 15 => v = .string B
  | 16 => v = .string B
  | 17 => v = .string D
  | 18 => v = .slice A n cap
  | 19 => v = .int .i64 (n : Int)
  | 20 => ∃ a, v = .slice (some ⟨a, 0, none⟩) n n ∧ lo ≤ a ∧ Has W a (sTx (List.replicate n ⟨#[]⟩)) 9
  | 21 => v = .slice A n cap
  | 22 => v = .int .i64 (n : Int)
  | 23 => ∃ b, v = .slice (some ⟨b, 0, none⟩) n n ∧ lo ≤ b ∧ Has W b (tC (List.replicate n (⟨#[]⟩, 0, 0))) 42
  | 24 => ∃ a b, v = .agg #[.string B, .string D, .slice (some ⟨a, 0, none⟩) n n, .slice (some ⟨b, 0, none⟩) n n] ∧ lo ≤ a ∧ lo ≤ b ∧ Has W a (sTx (List.replicate n ⟨#[]⟩)) 9 ∧ Has W b (tC (List.replicate n (⟨#[]⟩, 0, 0))) 42
  | 6 => ∃ q, v = .pointer (some ⟨q, 0, none⟩) ∧ lo ≤ q ∧ Has W q #[.string ⟨#[]⟩, .string ⟨#[]⟩, .slice none 0 0, .slice none 0 0] 39
  | _ => True
theorem pkF_mono {lo n : Nat} {A : Option Addr} {cap : Nat} {B D : ByteArray} {W W' : World} (hb : Below W.heap.size W W') (d : Nat) (v : Value) (h : pkF lo n A cap B D d v W) : pkF lo n A cap B D d v W' := by
  unfold pkF at h ⊢
  split at h
  · exact h
  · exact h
  · exact h
  · exact h
  · exact h
  · obtain ⟨a, h1, h2, h3⟩ := h
    exact ⟨a, h1, h2, h3.below hb h3.lt⟩
  · exact h
  · exact h
  · obtain ⟨a, h1, h2, h3⟩ := h
    exact ⟨a, h1, h2, h3.below hb h3.lt⟩
  · obtain ⟨a, b, h1, h2, h3, h4, h5⟩ := h
    exact ⟨a, b, h1, h2, h3, h4.below hb h4.lt, h5.below hb h5.lt⟩
  · obtain ⟨a, h1, h2, h3⟩ := h
    exact ⟨a, h1, h2, h3.below hb h3.lt⟩
  · trivial
section
variable {ev : Operand → Value} {o : Oper} {w : World} {x y z u : Operand}
theorem rn_al39 (ho : o.op = .alloc 39) : (execOp ev o).run Tryd.prog w = .ok (.value (.pointer (some ⟨w.heap.size, 0, none⟩))) (w.alloc (.cells #[.string ⟨#[]⟩, .string ⟨#[]⟩, .slice none 0 0, .slice none 0 0] 39)) := by
  simp [execOp, ho, go_sem]
theorem rn_bd39 {B D : ByteArray} {n a b : Nat} (ho : o.op = .build 39 #[(0, x), (1, y), (2, z), (3, u)]) (hx : ev x = .string B) (hy : ev y = .string D) (hz : ev z = .slice (some ⟨a, 0, none⟩) n n) (hu : ev u = .slice (some ⟨b, 0, none⟩) n n) : (execOp ev o).run Tryd.prog w = .ok (.value (.agg #[.string B, .string D, .slice (some ⟨a, 0, none⟩) n n, .slice (some ⟨b, 0, none⟩) n n])) w := by
  simp [execOp, ho, hx, hy, hz, hu, go_sem]
end
theorem sTx_cell {W : World} {a k : Nat} {l : List ByteArray} (h : Has W a (sTx l) 9) (hk : k < l.length) : W.cell? ⟨a, k, none⟩ = some (.string (l.getD k ⟨#[]⟩)) := by
  rw [h.cell]; simp [sTx, List.getD_eq_getElem?_getD, List.getElem?_eq_getElem hk]
theorem tC_put {w : World} {b k : Nat} {l : List (ByteArray × Nat × Nat)} (h : Has w b (tC l) 42) (hk : k < l.length) (x : ByteArray × Nat × Nat) : Has (w.setCells b (k * 3) (pl3 x)) b (tC (l.set k x)) 42 := by
  have h1 := has_setCells_mid (pl3 x) (k * 3) (l.flatMap pl3) h (by rw [flat_len pl3 3 (fun _ => rfl)]; show k * 3 + 3 ≤ _; omega)
  have e := flat_set pl3 3 (fun _ => rfl) x l k hk
  have hl : (pl3 x).length = 3 := rfl
  rw [hl, e] at h1
  exact h1
theorem ret_pk {fn : Func} {a : Act} {W : World} {q : Nat} {u v x y : Value} {d : TypeDesc} {Q : Ending → World → Prop} (t : Nat) (h : Has W q #[u, v, x, y] t)
    (hr : (match d with | .struct _ | .array _ _ => true | _ => false) = true) (hu : Tryd.prog.underlying t = some d) (hi : (Tryd.prog.info? t).map (·.size) = some 4)
    (hf : fn.results = #[.cell 2 t]) (hx : a.tmps.getD 2 undef = .pointer (some ⟨q, 0, none⟩)) (hd : a.defers = [])
    (hQ : Q (.returned (.agg #[u, v, x, y])) W) : bodyPost Tryd.prog fn Q Exit.ret a W :=
  bodyPost_ret (results_cell_row hf a.tmps W q t #[u, v, x, y] (0, 0) d hx h hu (by cases d <;> first | rfl | cases hr) hi) hd hQ
theorem there_has {w : World} {q n o : Nat} {cs : Array Value} {t : TypeId} (h : Has w q cs t) (hn : o + n ≤ cs.size) : w.there q o n := fun j hj => ⟨by rw [h.cell]; simp; omega, h.frozen _⟩
def pkV6 (q a n k : Nat) (s : ByteArray) : Nat → Value
  | 32 => .pointer (some ⟨q, 2, none⟩)
  | 33 => .slice (some ⟨a, 0, none⟩) n n
  | 34 => .int .i64 (k : Int)
  | 35 => .string s
  | 36 => .string (dg s)
  | 37 => .pointer (some ⟨a, k, none⟩)
  | _ => undef
def pkF6 (q a n k : Nat) (s : ByteArray) (d : Nat) (v : Value) (_ : World) : Prop := v = pkV6 q a n k s d
set_option maxRecDepth 20000 in
set_option maxHeartbeats 4000000 in
theorem packOf_any (p : List ByteArray) (A : Option Addr) (cap : Nat) (w : World) (ht : S.Tabs w) (h : Tx w A p) (hM : May (p.map bs)) :
    Calls Tryd.prog 30 #[.slice A p.length cap] w fun e w' => ∃ a b, e = .returned (pkV p a b) ∧ PkAt w' w.heap.size p a b ∧ Below w.heap.size w w' := by
  obtain ⟨h1, h2⟩ := may_tot hM
  have C1 := fun W (h : Tx W A p) => make_yes p A cap W h hM
  change ∀ W, Tx W A p → Calls Tryd.prog 25 _ W fun e w' => ∃ g, e = .returned (.tuple #[.string (pb p), _, _]) ∧ _ at C1
  have hsz := pb_size p
  have HC2 : Hid (∀ W, S.Tabs W → _) := hid (fun W (ht : S.Tabs W) => dig_any (pb p) (by omega) W ht)
  have b0 : Below w.heap.size w (w.alloc (.cells #[.string ⟨#[]⟩, .string ⟨#[]⟩, .slice none 0 0, .slice none 0 0] 39)) := (Below.refl _ _).alloc (Nat.le_refl _) _
  have hR0 := Has.new w w.heap.size #[.string ⟨#[]⟩, .string ⟨#[]⟩, .slice none 0 0, .slice none 0 0] 39 rfl
  have HL0 := hid (h.below b0)
  have HT0 := hid (tabs_below ht b0 (Nat.le_refl _))
  have HR0 := hid hR0
  have HB0 := hid b0
  clear hR0 b0 h ht hM
  go_enter Tryd.func30, Tryd.ntmps30
  go_wp2_with fail
  refine (C1 _ HL0.out).mono ?_
  rintro e w1 ⟨g, rfl, i1, bb1⟩
  have HL1 := hid (HL0.out.below bb1)
  have HT1 := hid (tabs_below HT0.out bb1 (Nat.le_refl _))
  have HR1 := hid (HR0.out.below bb1 HR0.out.lt)
  have HB1 := hid (HB0.out.trans (bb1.mono HB0.out.size))
  have HI1 := hid i1
  clear i1 bb1 C1 HL0 HT0 HR0 HB0
  go_wp2_with fail
  refine Tl.wp_mix_lit (by kernel_rfl) 11 [15, 16, 17, 18, 19, 20, 21, 22, 23, 24, 6] 53 rfl (by kernel_rfl) (fun W => Below w1.heap.size w1 W) (pkF w1.heap.size p.length A cap (pb p) (dg (pb p))) (Below.refl _ _).drew
    ⟨fun a' W' hC hF => ?_, fun a' W' hC hF => ?_, fun a' W' hC hF => ?_, fun a' W' hC hF => ?_, fun a' W' hC hF => ?_, fun a' W' hC hF => ?_, fun a' W' hC hF => ?_, fun a' W' hC hF => ?_, fun a' W' hC hF => ?_, fun a' W' hC hF => ?_, fun a' W' hC hF => ?_, trivial⟩ ?_
  · exact Tl.sm_v 15 _ rfl (Tl.wanted_none rfl) hC rfl (rn_move rfl ((hF 3 (by decide +kernel)).2 (by decide)))
  · exact Tl.sm_v 16 _ rfl (Tl.wanted_none rfl) hC rfl (rn_move rfl ((hF 3 (by decide +kernel)).2 (by decide)))
  · refine Tl.sm_call 14 #[_] (Tl.wanted_none rfl) (rn_call1 rfl rfl (show Act.eval a' (.tmp 16) = .string (pb p) from ((hF 16 (by decide +kernel)).1 (by decide))) (en14 _ _)) ((HC2.out W' (tabs_below HT1.out hC (Nat.le_refl _))).mono ?_)
    rintro e W'' ⟨rfl, hb⟩
    exact ⟨_, rfl, hC.trans (hb.mono hC.size), fun d v _ h => pkF_mono hb d v h, fun d hd => by cases hd; rfl⟩
  · exact Tl.sm_v 18 _ rfl (Tl.wanted_none rfl) hC rfl (rn_move rfl ((hF 0 (by decide +kernel)).2 (by decide)))
  · exact Tl.sm_v 19 _ rfl (Tl.wanted_none rfl) hC rfl (rn_len22 rfl (show Act.eval a' (.tmp 18) = .slice A p.length cap from ((hF 18 (by decide +kernel)).1 (by decide))) )
  · refine Tl.sm_w _ (Tl.wanted_none rfl) (rn_mk22 (by omega) rfl (show Act.eval a' (.tmp 19) = .int .i64 (p.length : Int) from ((hF 19 (by decide +kernel)).1 (by decide))) (show Act.eval a' (.tmp 19) = .int .i64 (p.length : Int) from ((hF 19 (by decide +kernel)).1 (by decide)))) (hC.alloc hC.size _) (fun d v _ h => pkF_mono ((Below.refl _ _).alloc (Nat.le_refl _) _) d v h) (fun d hd => ?_)
    cases hd
    exact ⟨W'.heap.size, rfl, hC.size, Has.new _ _ _ _ rfl⟩
  · exact Tl.sm_v 21 _ rfl (Tl.wanted_none rfl) hC rfl (rn_move rfl ((hF 0 (by decide +kernel)).2 (by decide)))
  · exact Tl.sm_v 22 _ rfl (Tl.wanted_none rfl) hC rfl (rn_len22 rfl (show Act.eval a' (.tmp 21) = .slice A p.length cap from ((hF 21 (by decide +kernel)).1 (by decide))) )
  · refine Tl.sm_w _ (Tl.wanted_none rfl) (rn_mk32 (by omega) rfl (show Act.eval a' (.tmp 22) = .int .i64 (p.length : Int) from ((hF 22 (by decide +kernel)).1 (by decide))) (show Act.eval a' (.tmp 22) = .int .i64 (p.length : Int) from ((hF 22 (by decide +kernel)).1 (by decide)))) (hC.alloc hC.size _) (fun d v _ h => pkF_mono ((Below.refl _ _).alloc (Nat.le_refl _) _) d v h) (fun d hd => ?_)
    cases hd
    exact ⟨W'.heap.size, rfl, hC.size, Has.new _ _ _ _ rfl⟩
  · obtain ⟨a, ea, la, ha⟩ := (show pkF w1.heap.size p.length A cap (pb p) (dg (pb p)) 20 (a'.tmps.getD 20 undef) W' from ((hF 20 (by decide +kernel)).1 (by decide)))
    obtain ⟨b, eb, lb, hb⟩ := (show pkF w1.heap.size p.length A cap (pb p) (dg (pb p)) 23 (a'.tmps.getD 23 undef) W' from ((hF 23 (by decide +kernel)).1 (by decide)))
    exact Tl.sm_v 24 _ rfl (Tl.wanted_none rfl) hC ⟨a, b, rfl, la, lb, ha, hb⟩ (rn_bd39 rfl (show Act.eval a' (.tmp 15) = .string (pb p) from ((hF 15 (by decide +kernel)).1 (by decide))) (show Act.eval a' (.tmp 17) = .string (dg (pb p)) from ((hF 17 (by decide +kernel)).1 (by decide))) ea eb)
  · refine Tl.sm_w _ (Tl.wanted_none rfl) (rn_al39 rfl) (hC.alloc hC.size _) (fun d v _ h => pkF_mono ((Below.refl _ _).alloc (Nat.le_refl _) _) d v h) (fun d hd => ?_)
    cases hd
    exact ⟨W'.heap.size, rfl, hC.size, Has.new _ _ _ _ rfl⟩
  intro v' w2 hC hv
  obtain ⟨q, eq6, lq, hq⟩ := (show pkF w1.heap.size p.length A cap (pb p) (dg (pb p)) 6 (v' 6) w2 from hv 6 (by decide))
  obtain ⟨a, b, e24, la, lb, ha, hb⟩ := (show pkF w1.heap.size p.length A cap (pb p) (dg (pb p)) 24 (v' 24) w2 from hv 24 (by decide))
  clear hv
  simp only [Tl.fill, List.drop]
  simp only [Act.put, List.setIfInBounds_toArray, List.set_cons_succ, List.set_cons_zero, eq6, e24]
  refine wpList_store_mid rfl 39 (.tmp 6) (.tmp 24) rfl q 0 _ rfl rfl (there_has hq (Nat.le_refl 4)) (by kernel_rfl) (by simp [Value.oneCell']) ?_
  have hq3 : Has (w2.setCells q 0 (#[.string (pb p), .string (dg (pb p)), .slice (some ⟨a, 0, none⟩) p.length p.length, .slice (some ⟨b, 0, none⟩) p.length p.length] : Array Value).toList) q #[.string (pb p), .string (dg (pb p)), .slice (some ⟨a, 0, none⟩) p.length p.length, .slice (some ⟨b, 0, none⟩) p.length p.length] 39 := has_setRow hq rfl
  have ha3 := has_setCells_other (has_ne ha hq (by decide)) (#[.string (pb p), .string (dg (pb p)), .slice (some ⟨a, 0, none⟩) p.length p.length, .slice (some ⟨b, 0, none⟩) p.length p.length] : Array Value).toList 0 ha
  have hb3 := has_setCells_other (has_ne hb hq (by decide)) (#[.string (pb p), .string (dg (pb p)), .slice (some ⟨a, 0, none⟩) p.length p.length, .slice (some ⟨b, 0, none⟩) p.length p.length] : Array Value).toList 0 hb
  have hC3 := below_setCells lq (#[.string (pb p), .string (dg (pb p)), .slice (some ⟨a, 0, none⟩) p.length p.length, .slice (some ⟨b, 0, none⟩) p.length p.length] : Array Value).toList 0 hC
  generalize w2.setCells q 0 (#[.string (pb p), .string (dg (pb p)), .slice (some ⟨a, 0, none⟩) p.length p.length, .slice (some ⟨b, 0, none⟩) p.length p.length] : Array Value).toList = w3 at *
  simp only [wpList]
  have HQ := hid hq3
  have HA := hid ha3
  have HBB := hid hb3
  have HC := hid hC3
  have LA := hid la
  have LB := hid lb
  have LQ := hid lq
  have HE1 := hid (plU_zero p)
  have HE2 : Hid (padS ((p.take 0).map dg) p.length = List.replicate p.length ⟨#[]⟩) := hid (by rw [List.take_zero, List.map_nil, padS_zero])
  clear hq3 ha3 hb3 hC3 la lb lq hq ha hb hC eq6 e24 HC2
  obtain ⟨n, hn⟩ : ∃ n, n = p.length := ⟨_, rfl⟩
  have HN := hid hn
  rw [← hn] at h1 HQ HA HBB HE1 HE2 ⊢
  clear hn
  go_wp2_with fail
  go_loopw [7, 8, 27] (fun _ _ v27 wr => ∃ k : Nat, k ≤ n ∧ v27 = .int .i64 (k : Int) ∧ Hid (Has wr q #[.string (pb p), .string (dg (pb p)), .slice (some ⟨a, 0, none⟩) n n, .slice (some ⟨b, 0, none⟩) n n] 39) ∧ Hid (Has wr a (sTx (padS ((p.take k).map dg) n)) 9) ∧ Hid (Has wr b (tC (plU p k)) 42) ∧ Hid (Below w1.heap.size w1 wr)) (fun _ _ v27 _ => n - (intOf v27).toNat)
  case atStart => exact ⟨0, Nat.zero_le _, rfl, HQ, by rw [HE2.out]; exact HA, by rw [HE1.out]; exact HBB, HC⟩
  case round =>
    clear HQ HA HBB HC HE1 HE2
    obtain ⟨k, hk, rfl, HQ, HA, HB, HC⟩ := hrel
    by_cases hlt : k < n
    · have hkp : k < p.length := by rw [← HN.out]; exact hlt
      obtain ⟨gc, oc, rfl, hgc, c0⟩ := tx_cell HL1.out HC.out hkp
      have hss : (p.getD k ⟨#[]⟩).size ≤ 900000000000 := by have := tot_le (getD_mem hkp); omega
      have HD := hid (fun W (ht : S.Tabs W) => dig_any (p.getD k ⟨#[]⟩) hss W ht)
      have HPS : Hid (∀ W, Has W a (sTx (padS ((p.take k).map dg) n)) 9 → Has (W.setCell ⟨a, k, none⟩ (.string (dg (p.getD k ⟨#[]⟩)))) a (sTx (padS ((p.take (k + 1)).map dg) n)) 9) := hid (fun W hW => by
        have h3 := hW.set k (.string (dg (p.getD k ⟨#[]⟩)))
        have hl : ((p.take k).map dg).length = k := by rw [List.length_map, List.length_take]; omega
        have h4 := padS_set ((p.take k).map dg) n (dg (p.getD k ⟨#[]⟩)) (by omega)
        rw [hl] at h4
        rw [sTx_set, h4, ← List.map_singleton, ← List.map_append, ← take_next p k hkp] at h3
        exact h3)
      have HPL := hid (plU_set p k hkp)
      have hPA := HI1.out k (by rw [at_len]; exact hkp)
      rw [pat_at p k hkp] at hPA
      obtain ⟨gi, oi, ei, hgi, c1⟩ := hPA
      cases ei
      rw [Nat.zero_add] at c1
      have GI := hid hgi
      clear hgi
      have hy : ∃ y, Hid (∀ W, Has W a (sTx (padS ((p.take k).map dg) n)) 9 → W.cell? ⟨a, k, none⟩ = some (.string y)) := by
        have hl : ((p.take k).map dg).length = k := by rw [List.length_map, List.length_take]; omega
        exact ⟨_, hid fun W hW => sTx_cell hW (by rw [padS_len _ _ (by omega)]; exact hlt)⟩
      obtain ⟨y, HY⟩ := hy
      have hLU := plU_len p k (by omega)
      have HLU := hid hLU
      generalize p.getD k ⟨#[]⟩ = s at *
      have i1 : (k : Int) < (n : Int) := by omega
      have i0 : (0 : Int) ≤ (k : Int) := by omega
      have wk : IntKind.i64.wrap ((k : Int) + 1) = ((k + 1 : Nat) : Int) := by rw [IntKind.wrap_i64]; omega
      have hql := HQ.out.lt
      have c2 := HQ.out.cell 2
      have c3 := HQ.out.cell 3
      have c4 := HQ.out.cell 1
      simp at c2 c3 c4
      have C2 := hid c2
      have CC1 := hid c1
      have HQL := hid hql
      clear c2 c3 c4 c1 hss hLU hql
      go_wp2_with fail
      refine Tl.wp_mix_lit (by kernel_rfl) 6 [32, 33, 34, 35, 36, 37] 53 rfl (by kernel_rfl) (fun W => Below wr.heap.size wr W) (pkF6 q a n k s) (Below.refl _ _).drew
        ⟨fun a' W' hC hF => ?_, fun a' W' hC hF => ?_, fun a' W' hC hF => ?_, fun a' W' hC hF => ?_, fun a' W' hC hF => ?_, fun a' W' hC hF => ?_, trivial⟩ ?_
      · exact Tl.sm_v 32 _ rfl (Tl.wanted_none rfl) hC rfl (rn_fa39_2 rfl ((hF 6 (by decide +kernel)).2 (by decide)))
      · exact Tl.sm_v 33 _ rfl (Tl.wanted_none rfl) hC rfl (rn_load22 rfl (show Act.eval a' (.tmp 32) = .pointer (some ⟨q, 2, none⟩) from ((hF 32 (by decide +kernel)).1 (by decide))) ((hC.cell (p := ⟨q, 2, none⟩) HQL.out).trans C2.out))
      · exact Tl.sm_v 34 _ rfl (Tl.wanted_none rfl) hC rfl (rn_move rfl ((hF 7 (by decide +kernel)).2 (by decide)))
      · exact Tl.sm_v 35 _ rfl (Tl.wanted_none rfl) hC rfl (rn_move rfl ((hF 8 (by decide +kernel)).2 (by decide)))
      · refine Tl.sm_call 14 #[_] (Tl.wanted_none rfl) (rn_call1 rfl rfl (show Act.eval a' (.tmp 35) = .string s from ((hF 35 (by decide +kernel)).1 (by decide))) (en14 _ _)) ((HD.out W' (tabs_below HT1.out (HC.out.trans (hC.mono HC.out.size)) (Nat.le_refl _))).mono ?_)
        rintro e W'' ⟨rfl, hb⟩
        exact ⟨_, rfl, hC.trans (hb.mono hC.size), fun d v _ h => h, fun d hd => by cases hd; rfl⟩
      · exact Tl.sm_v 37 _ rfl (Tl.wanted_none rfl) hC rfl (rn_ix22 rfl (show Act.eval a' (.tmp 33) = .slice (some ⟨a, 0, none⟩) n n from ((hF 33 (by decide +kernel)).1 (by decide))) (show Act.eval a' (.tmp 34) = .int .i64 (k : Int) from ((hF 34 (by decide +kernel)).1 (by decide))) hlt)
      intro v' w4 hC hv
      have e36 : v' 36 = .string (dg s) := hv 36 (by decide)
      have e37 : v' 37 = .pointer (some ⟨a, k, none⟩) := hv 37 (by decide)
      clear hv
      simp only [Tl.fill, List.drop]
      simp only [Act.put, List.setIfInBounds_toArray, List.set_cons_succ, List.set_cons_zero, e36, e37]
      have HA4 := HA.out.below hC HA.out.lt
      refine wpList_st rfl rfl (rn_st9 (x := .tmp 37) (y := .tmp 36) rfl rfl rfl (HY.out _ HA4) (HA4.frozen k)) ?_
      have HA5 := hid (HPS.out _ HA4)
      have HQ5 := hid ((HQ.out.below hC HQ.out.lt).other ⟨a, k, none⟩ (.string (dg s)) (has_ne (HQ.out.below hC HQ.out.lt) HA4 (by decide)))
      have HB5 := hid ((HB.out.below hC HB.out.lt).other ⟨a, k, none⟩ (.string (dg s)) (has_ne (HB.out.below hC HB.out.lt) HA4 (by decide)))
      have HC5 := hid ((HC.out.trans (hC.mono HC.out.size)).setCell (p := ⟨a, k, none⟩) LA.out (.string (dg s)))
      clear e36 e37 HA4 hC HA HQ HB HC HD HPS C2 HY HQL
      generalize w4.setCell ⟨a, k, none⟩ (.string (dg s)) = w5 at *
      simp only [wpList]
      have c2 := HQ5.out.cell 3
      have c3 := HQ5.out.cell 1
      simp at c2 c3
      have hLU := HLU.out
      have c4 := (tC_cell HB5.out k ((plU p k).getD k (⟨#[]⟩, 0, 0)) (by rw [List.getD_eq_getElem?_getD, List.getElem?_eq_getElem (by omega)]; rfl))
      obtain ⟨d0, d1, d2⟩ := c4
      have f0 := HB5.out.frozen (k * 3)
      have f1 := HB5.out.frozen (k * 3 + 1)
      have f2 := HB5.out.frozen (k * 3 + 2)
      have c5 : w5.cell? ⟨g, k, none⟩ = some (.int .i64 (pat p k : Int)) := (HC5.out.cell (p := ⟨g, k, none⟩) GI.out).trans CC1.out
      clear hLU
      generalize (plU p k).getD k (⟨#[]⟩, 0, 0) = xx at *
      go_wp2_with fail
      go_region
      go_wp2_with fail
      go_roundw
      case rel =>
        have hs := HPL.out
        refine ⟨k + 1, by omega, by rfl, hid ?_, hid ?_, hid ?_, hid ?_⟩
        · exact has_setCells_other (has_ne HQ5.out HB5.out (by decide)) (pl3 (dg (pb p), pat p k, s.size)) (k * 3) HQ5.out
        · exact has_setCells_other (has_ne HA5.out HB5.out (by decide)) (pl3 (dg (pb p), pat p k, s.size)) (k * 3) HA5.out
        · rw [← hs]; exact tC_put HB5.out (by rw [HLU.out, ← HN.out]; exact hlt) (dg (pb p), pat p k, s.size)
        · exact (below_setCells LB.out (pl3 (dg (pb p), pat p k, s.size)) (k * 3) HC5.out).drew
      case measure => first | (simp [intOf]; done) | (simp [intOf]; omega)
    · obtain rfl : k = n := by omega
      have q1 : ¬ ((k : Int) < (k : Int)) := by omega
      have HR := hid (HR1.out.below HC.out HR1.out.lt)
      have c0 := HQ.out.cell 0
      have c1 := HQ.out.cell 1
      have c2 := HQ.out.cell 2
      have c3 := HQ.out.cell 3
      simp at c0 c1 c2 c3
      have d0 := HR.out.cell 0
      have d1 := HR.out.cell 1
      have d2 := HR.out.cell 2
      have d3 := HR.out.cell 3
      simp at d0 d1 d2 d3
      have f0 := HR.out.frozen 0
      have f1 := HR.out.frozen 1
      have f2 := HR.out.frozen 2
      have f3 := HR.out.frozen 3
      go_wp2_with fail
      have hfin : Has (wr.setCells w.heap.size 0 [.string (pb p), .string (dg (pb p)), .slice (some ⟨a, 0, none⟩) k k, .slice (some ⟨b, 0, none⟩) k k]) w.heap.size #[.string (pb p), .string (dg (pb p)), .slice (some ⟨a, 0, none⟩) k k, .slice (some ⟨b, 0, none⟩) k k] 39 := has_setRow HR.out rfl
      have hkn : p.take k = p := by rw [HN.out]; exact List.take_length
      have hka := HA.out
      have hkb := HB.out
      rw [hkn] at hka
      have e2 : padS (p.map dg) k = p.map dg := by rw [HN.out, ← List.length_map (f := dg)]; exact padS_all _
      have e3 : plU p k = plT p := by rw [HN.out]; exact plU_all p
      rw [e2] at hka
      rw [e3] at hkb
      have ga := has_setCells_other (b' := w.heap.size) (by have := LA.out; have := HR1.out.lt; omega) [.string (pb p), .string (dg (pb p)), .slice (some ⟨a, 0, none⟩) k k, .slice (some ⟨b, 0, none⟩) k k] 0 hka
      have gb := has_setCells_other (b' := w.heap.size) (by have := LB.out; have := HR1.out.lt; omega) [.string (pb p), .string (dg (pb p)), .slice (some ⟨a, 0, none⟩) k k, .slice (some ⟨b, 0, none⟩) k k] 0 hkb
      have gB := below_setCells (Nat.le_refl _) [.string (pb p), .string (dg (pb p)), .slice (some ⟨a, 0, none⟩) k k, .slice (some ⟨b, 0, none⟩) k k] 0 (HB1.out.trans (HC.out.mono HB1.out.size))
      refine ret_pk 39 hfin rfl Tryd.underlying39 (by kernel_rfl) Tryd.results30 rfl rfl ⟨a, b, ?_, ⟨by have := LA.out; have := HB1.out.size; omega, by have := LB.out; have := HB1.out.size; omega, ga, gb⟩, gB⟩
      unfold pkV
      rw [← HN.out]
end Go.Proofs.YtjhjolnflkekoaaDoor
