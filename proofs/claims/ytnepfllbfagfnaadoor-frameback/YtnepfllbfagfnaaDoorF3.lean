/- The contract of told: a frame as a list tells it. -/
import Derived.Test.YtnepfllbfagfnaaDoorF2
namespace Go.Proofs.YtnepfllbfagfnaaDoor
open Go.RowKit
section
variable {ev : Operand → Value} {o : Oper} {w : World} {x y : Operand}
theorem rn_build24 {a b : Int} (ho : o.op = .build 24 #[(0, x), (1, y)]) (hx : ev x = .int .i64 a) (hy : ev y = .int .i64 b) : (execOp ev o).run Tryd.prog w = .ok (.value (.agg #[.int .i64 a, .int .i64 b])) w := by
  simp [execOp, ho, hx, hy, go_sem]
theorem rn_build26 {a b : Int} (ho : o.op = .build 26 #[(0, x), (1, y)]) (hx : ev x = .int .i64 a) (hy : ev y = .int .i64 b) : (execOp ev o).run Tryd.prog w = .ok (.value (.agg #[.int .i64 a, .int .i64 b])) w := by
  simp [execOp, ho, hx, hy, go_sem]
theorem rn_build28 {a b c d : Int} {p : ByteArray} {z : Operand} (ho : o.op = .build 28 #[(0, x), (1, y), (2, z)]) (hx : ev x = .agg #[.int .i64 a, .int .i64 b]) (hy : ev y = .agg #[.int .i64 c, .int .i64 d]) (hz : ev z = .string p) : (execOp ev o).run Tryd.prog w = .ok (.value (.agg (frc a b c d p))) w := by
  simp [execOp, ho, hx, hy, hz, go_sem, frc]
theorem rn_build41 {a b c d : Int} {p : ByteArray} {z : Operand} (ho : o.op = .build 41 #[(0, x), (1, y), (2, z)]) (hx : ev x = .agg #[.int .i64 a, .int .i64 b]) (hy : ev y = .agg #[.int .i64 c, .int .i64 d]) (hz : ev z = .string p) : (execOp ev o).run Tryd.prog w = .ok (.value (.agg (frc a b c d p))) w := by
  simp [execOp, ho, hx, hy, hz, go_sem, frc]
theorem rn_ix32_0 {g f n c : Nat} (ho : o.op = .indexAddr 32 x (.const (.int .i64 0))) (hx : ev x = .slice (some ⟨g, f, none⟩) n c) (h : 0 < n) (hc : ev (.const (.int .i64 0)) = .int .i64 0) : (execOp ev o).run Tryd.prog w = .ok (.value (.pointer (some ⟨g, f, none⟩))) w := by
  have h1 : n ≠ 0 := by omega
  simp [execOp, ho, hx, hc, go_sem, h1]
theorem rn_ix32_1 {g f n c : Nat} (ho : o.op = .indexAddr 32 x (.const (.int .i64 1))) (hx : ev x = .slice (some ⟨g, f, none⟩) n c) (h : 1 < n) (hc : ev (.const (.int .i64 1)) = .int .i64 1) : (execOp ev o).run Tryd.prog w = .ok (.value (.pointer (some ⟨g, f + 1, none⟩))) w := by
  have h1 : (1 : Int) < (n : Int) := by omega
  simp [execOp, ho, hx, hc, go_sem, h1]
theorem rn_load5 {g k : Nat} {v : Value} (ho : o.op = .load 5 x) (hx : ev x = .pointer (some ⟨g, k, none⟩)) (hc : w.cell? ⟨g, k, none⟩ = some v) : (execOp ev o).run Tryd.prog w = .ok (.value v) w := by
  simp [execOp, ho, hx, go_sem, hc]
theorem rn_c329 {v : Value} {s : ByteArray} (ho : o.op = .convert 32 9 x) (hx : ev x = v) (hc : (convert 32 9 v).run Tryd.prog w = .ok (.string s) w) : (execOp ev o).run Tryd.prog w = .ok (.value (.string s)) w := by
  simp [execOp, ho, hx, go_sem, hc]
end
theorem BRow.only {W W' : World} {g b : Nat} {l : List Nat} (h : BRow W g l) (ho : Only b W W') (hne : g ≠ b) : BRow W' g l := by
  have hl := h.lt
  obtain ⟨cs, t, fr, h, r⟩ := h
  exact ⟨cs, t, fr, by rw [ho.block g hl hne]; exact h, r⟩
theorem BRow.drew {W : World} {g : Nat} {l : List Nat} (h : BRow W g l) : BRow W.drew g l := h
/-- the string of some of them -/
theorem BRow.convAt {W : World} {g : Nat} {l : List Nat} (h : BRow W g l) (f n c : Nat) (hn : f + n ≤ l.length) : (convert 32 9 (.slice (some ⟨g, f, none⟩) n c)).run Tryd.prog W = .ok (.string (ofBs ((l.drop f).take n))) W := by
  rw [run_convert_bytes_string W 32 9 5 _ _ _ Tryd.underlying32 Tryd.underlying5 Tryd.underlying9]
  have hlen : ((l.drop f).take n).length = n := by rw [List.length_take, List.length_drop]; omega
  have hl : (loadCells ⟨g, f, none⟩ n).run Tryd.prog W = .ok ((((l.drop f).take n).map fun x : Nat => (x : Int)).map (Value.int .u8)).toArray W := by
    have h2 := run_loadCells_list (P := Tryd.prog) W ⟨g, f, none⟩ (U8s ((l.drop f).take n)).toList (fun j v hv => by
      have hj : j < ((l.drop f).take n).length := by
        have := (List.getElem?_eq_some_iff.1 hv).1
        simpa [U8s] using this
      have hj' : f + j < l.length := by omega
      rw [Addr.add_mid, h.cell (f + j) hj', ← hv]
      have := U8s_get ((l.drop f).take n) j hj
      rw [Array.getElem?_toList, this]
      congr 3
      rw [List.getD_eq_getElem?_getD, List.getD_eq_getElem?_getD, List.getElem?_take_of_lt (by omega), List.getElem?_drop])
    rw [Array.length_toList, U8s_size, hlen] at h2
    rw [h2]
    simp [U8s]
    rfl
  rw [run_bytesToString W _ _ _ _ hl, fold_push]
  simp [ofBs]
theorem frc_cells {W : World} {b : Nat} {E G K N : Int} {p : ByteArray} {t : TypeId} (h : Has W b (frc E G K N p) t) :
    W.cell? ⟨b, 0, none⟩ = some (.int .i64 E) ∧ W.cell? ⟨b, 1, none⟩ = some (.int .i64 G) ∧ W.cell? ⟨b, 2, none⟩ = some (.int .i64 K) ∧ W.cell? ⟨b, 3, none⟩ = some (.int .i64 N) ∧ W.cell? ⟨b, 4, none⟩ = some (.string p) :=
  ⟨h.cell 0, h.cell 1, h.cell 2, h.cell 3, h.cell 4⟩
theorem frc_free {W : World} {b : Nat} {E G K N : Int} {p : ByteArray} {t : TypeId} (h : Has W b (frc E G K N p) t) :
    W.frozen? ⟨b, 0, none⟩ = false ∧ W.frozen? ⟨b, 1, none⟩ = false ∧ W.frozen? ⟨b, 2, none⟩ = false ∧ W.frozen? ⟨b, 3, none⟩ = false ∧ W.frozen? ⟨b, 4, none⟩ = false :=
  ⟨h.frozen 0, h.frozen 1, h.frozen 2, h.frozen 3, h.frozen 4⟩
theorem frc_put {W : World} {b : Nat} {E G K N : Int} {p : ByteArray} {t : TypeId} (h : Has W b (frc E G K N p) t) (E' G' K' N' : Int) (p' : ByteArray) :
    Has (((((W.setCell ⟨b, 0, none⟩ (.int .i64 E')).setCell ⟨b, 1, none⟩ (.int .i64 G')).setCell ⟨b, 2, none⟩ (.int .i64 K')).setCell ⟨b, 3, none⟩ (.int .i64 N')).setCell ⟨b, 4, none⟩ (.string p')) b (frc E' G' K' N' p') t := by
  have := ((((h.set 0 (.int .i64 E')).set 1 (.int .i64 G')).set 2 (.int .i64 K')).set 3 (.int .i64 N')).set 4 (.string p')
  simpa [frc] using this
theorem below_put5 {w W : World} {b : Nat} (h : Below w.heap.size w W) (hb : w.heap.size ≤ b) (v0 v1 v2 v3 v4 : Value) : Below w.heap.size w (((((W.setCell ⟨b, 0, none⟩ v0).setCell ⟨b, 1, none⟩ v1).setCell ⟨b, 2, none⟩ v2).setCell ⟨b, 3, none⟩ v3).setCell ⟨b, 4, none⟩ v4) :=
  belowSet (belowSet (belowSet (belowSet (belowSet h b 0 v0 hb) b 1 v1 hb) b 2 v2 hb) b 3 v3 hb) b 4 v4 hb
theorem info28 : (Tryd.prog.info? 28).map (·.size) = some 5 := by kernel_rfl
theorem info41 : (Tryd.prog.info? 41).map (·.size) = some 5 := by kernel_rfl
set_option maxRecDepth 20000 in
/-- a frame that lies in memory is told -/
theorem ret_one28 {fn : Func} {a : Act} {W : World} {b : Nat} {E G K N : Int} {q : ByteArray} {p : Tmp} {Q : Ending → World → Prop}
    (hf : fn.results = #[.cell p 28]) (hp : a.tmps.getD p undef = .pointer (some ⟨b, 0, none⟩)) (hd : a.defers = []) (hc : Has W b (frc E G K N q) 28)
    (hQ : Q (.returned (.agg (frc E G K N q))) W) : bodyPost Tryd.prog fn Q Exit.ret a W := by
  refine bodyPost_ret (v := .agg (frc E G K N q)) ?_ hd hQ
  rw [results_one_cell hf]
  exact ret_row (cs := (frc E G K N q).toList) hp hc.range Tryd.underlying28 rfl info28
theorem ret_frame {fn : Func} {a : Act} {W : World} {b : Nat} {E G K N : Int} {q : ByteArray} {p u : Tmp} {v : Value} {Q : Ending → World → Prop}
    (hf : fn.results = #[.cell p 28, .tmp u]) (hp : a.tmps.getD p undef = .pointer (some ⟨b, 0, none⟩)) (hv : a.tmps.getD u undef = v) (hd : a.defers = []) (hc : Has W b (frc E G K N q) 28)
    (hQ : Q (.returned (.tuple #[.agg (frc E G K N q), v])) W) : bodyPost Tryd.prog fn Q Exit.ret a W :=
  ret_cell (cs := (frc E G K N q).toList) hf hp hv hd hc.range Tryd.underlying28 rfl info28 hQ
theorem ret_frame41 {fn : Func} {a : Act} {W : World} {b : Nat} {E G K N : Int} {q : ByteArray} {p u : Tmp} {v : Value} {Q : Ending → World → Prop}
    (hf : fn.results = #[.cell p 41, .tmp u]) (hp : a.tmps.getD p undef = .pointer (some ⟨b, 0, none⟩)) (hv : a.tmps.getD u undef = v) (hd : a.defers = []) (hc : Has W b (frc E G K N q) 41)
    (hQ : Q (.returned (.tuple #[.agg (frc E G K N q), v])) W) : bodyPost Tryd.prog fn Q Exit.ret a W :=
  ret_cell (cs := (frc E G K N q).toList) hf hp hv hd hc.range Tryd.underlying41 rfl info41 hQ
set_option maxRecDepth 20000 in
theorem cutter_any (A : Option Addr) (n c : Nat) (w : World) : Calls Tryd.prog 29 #[.slice A n c] w fun e w' => e = .returned (.func (.func 38) #[] #[.pointer (some ⟨w.heap.size, 0, none⟩)]) ∧ w' = w.alloc (.cells #[.slice A n c] 32) := by
  go_enter Tryd.func29, Tryd.ntmps29
  go_wp2
  go_ret
  exact ⟨rfl, rfl⟩
/-- the memory of told: the frame that is told, what is still to be cut, the bytes -/
structure TdW (l : List Nat) (g n c f : Nat) (w W : World) : Prop where
  hr : Has W w.heap.size noF 28
  hd : Has W (w.heap.size + 1) #[.slice (some ⟨g, f, none⟩) (n - f) (c - f)] 32
  hb : BRow W g l
  lt : g < w.heap.size
  bl : Below w.heap.size w W
theorem TdW.off {l : List Nat} {g n c f : Nat} {w W : World} (h : TdW l g n c f w W) (k : Nat) (hk : f + k ≤ n) (hc : n ≤ c) (hkc : f + k < c) :
    Calls Tryd.prog 38 #[.int .i64 (k : Int), .pointer (some ⟨w.heap.size + 1, 0, none⟩)] W fun e w' => e = .returned (.slice (some ⟨g, f, none⟩) k k) ∧ TdW l g n c (f + k) w w' := by
  refine (cut_any (w.heap.size + 1) g f (n - f) (c - f) k W h.hd (by omega) (by omega) (by omega)).mono ?_
  rintro e w' ⟨rfl, h1, ho⟩
  have := h.lt
  refine ⟨rfl, h.hr.only ho (by omega), ?_, h.hb.only ho (by omega), h.lt, h.bl.trans (ho.below (Nat.le_succ _) h.bl.size)⟩
  rw [Nat.sub_sub, Nat.sub_sub] at h1
  exact h1
theorem TdW.number {l : List Nat} {g n c f : Nat} {w W : World} (h : TdW l g n c f w W) (hl : ∀ x ∈ l, x < 256) (j : Nat) (hj : j + 3 < l.length) :
    Calls Tryd.prog 30 #[.slice (some ⟨g, j, none⟩) 4 4] W fun e w' => e = .returned (.int .i64 ((n4 l j : Nat) : Int)) ∧ w' = W :=
  number_any _ _ _ _ (getD_lt l 256 (by decide) hl _) (getD_lt l 256 (by decide) hl _) (getD_lt l 256 (by decide) hl _) (getD_lt l 256 (by decide) hl _) g j W (h.hb.cell j (by omega)) (h.hb.cell (j + 1) (by omega)) (h.hb.cell (j + 2) (by omega)) (h.hb.cell (j + 3) hj)
/-- what the slots of told's last statement hold -/
def tv (E G a b g n : Nat) (p : ByteArray) : Nat → Value
  | 27 => .int .i64 (E : Int)
  | 28 => .int .i64 (G : Int)
  | 29 => .agg #[.int .i64 (E : Int), .int .i64 (G : Int)]
  | 30 => .slice (some ⟨g, 12, none⟩) 2 2
  | 31 => .pointer (some ⟨g, 12, none⟩)
  | 32 => .int .u8 (a : Int)
  | 33 => .int .i64 (a : Int)
  | 34 => .slice (some ⟨g, 12, none⟩) 2 2
  | 35 => .pointer (some ⟨g, 13, none⟩)
  | 36 => .int .u8 (b : Int)
  | 37 => .int .i64 (b : Int)
  | 38 => .agg #[.int .i64 (a : Int), .int .i64 (b : Int)]
  | 39 => .slice (some ⟨g, 18, none⟩) (n - 50) (n - 50)
  | 40 => .string p
  | _ => .agg (frc E G a b p)
set_option maxRecDepth 20000 in
set_option maxHeartbeats 2000000 in
theorem told_aux (g n c : Nat) (l : List Nat) (w : World) (hb : BRow w g l) (hl : l.length = n) (hlt : ∀ x ∈ l, x < 256) (hn : 50 ≤ n) (hn2 : n ≤ 1000000) (hc : n ≤ c)
    (E G a b : Nat) (p : ByteArray) (hE : Hid (n4 l 4 = E)) (hG : Hid (n4 l 8 = G)) (ha : Hid (l.getD 12 0 = a)) (hbb : Hid (l.getD 13 0 = b)) (hp : Hid (ofBs ((l.drop 18).take (n - 50)) = p)) (ha' : a < 256) (hb' : b < 256) :
    Calls Tryd.prog 20 #[.slice (some ⟨g, 0, none⟩) n c] w fun e w' => e = .returned (.agg (frc E G a b p)) ∧ Below w.heap.size w w' := by
  have q50 : IntKind.i64.wrap ((n : Int) - 50) = ((n - 50 : Nat) : Int) := by rw [wrap_i64_of (by omega) (by omega)]; omega
  have q51 : (n : Int) - 50 = ((n - 50 : Nat) : Int) := by omega
  have N4 : ∀ f W, TdW l g n c f w W → Calls Tryd.prog 30 #[.slice (some ⟨g, 4, none⟩) 4 4] W fun e w' => e = .returned (.int .i64 (E : Int)) ∧ w' = W := by
    intro f W h; have := h.number hlt 4 (by omega); rw [hE.out] at this; exact this
  have N8 : ∀ f W, TdW l g n c f w W → Calls Tryd.prog 30 #[.slice (some ⟨g, 8, none⟩) 4 4] W fun e w' => e = .returned (.int .i64 (G : Int)) ∧ w' = W := by
    intro f W h; have := h.number hlt 8 (by omega); rw [hG.out] at this; exact this
  have C12 : ∀ W, TdW l g n c (0 + 4 + 4 + 4 + 2 + 4 + (n - 50)) w W → W.cell? ⟨g, 12, none⟩ = some (.int .u8 (a : Int)) := fun W h => by have := h.hb.cell 12 (by omega); rw [ha.out] at this; exact this
  have C13 : ∀ W, TdW l g n c (0 + 4 + 4 + 4 + 2 + 4 + (n - 50)) w W → W.cell? ⟨g, 13, none⟩ = some (.int .u8 (b : Int)) := fun W h => by have := h.hb.cell 13 (by omega); rw [hbb.out] at this; exact this
  have CV : ∀ W, TdW l g n c (0 + 4 + 4 + 4 + 2 + 4 + (n - 50)) w W → (convert 32 9 (.slice (some ⟨g, 18, none⟩) (n - 50) (n - 50))).run Tryd.prog W = .ok (.string p) W := fun W h => by have := h.hb.convAt 18 (n - 50) (n - 50) (by omega); rw [hp.out] at this; exact this
  have T0 : TdW l g n c 0 w ((w.alloc (.cells noF 28)).alloc (.cells #[.slice (some ⟨g, 0, none⟩) n c] 32)) := by
    obtain ⟨h1, h2, h3, h4⟩ := two_new w noF #[.slice (some ⟨g, 0, none⟩) n c] 28 32
    exact ⟨h1, h2, (hb.alloc _).alloc _, hb.lt, h3⟩
  go_enter Tryd.func20, Tryd.ntmps20
  go_wp2_with fail
  refine (cutter_any _ _ _ _).mono ?_
  rintro e w1 ⟨rfl, rfl⟩
  go_wp2_with fail
  refine (T0.off 4 (by omega) hc (by omega)).mono ?_
  rintro e w2 ⟨rfl, T2⟩
  clear T0
  go_wp2_with fail
  refine (T2.off 4 (by omega) hc (by omega)).mono ?_
  rintro e w3 ⟨rfl, T3⟩
  clear T2
  go_wp2_with fail
  refine (N4 _ _ T3).mono ?_
  rintro e w4 ⟨rfl, rfl⟩
  go_wp2_with fail
  refine (T3.off 4 (by omega) hc (by omega)).mono ?_
  rintro e w5 ⟨rfl, T5⟩
  clear T3
  go_wp2_with fail
  refine (N8 _ _ T5).mono ?_
  rintro e w6 ⟨rfl, rfl⟩
  go_wp2_with fail
  refine (T5.off 2 (by omega) hc (by omega)).mono ?_
  rintro e w7 ⟨rfl, T7⟩
  clear T5
  go_wp2_with fail
  refine (T7.off 4 (by omega) hc (by omega)).mono ?_
  rintro e w8 ⟨rfl, T8⟩
  clear T7
  go_wp2_with fail
  refine (T8.off (n - 50) (by omega) hc (by omega)).mono ?_
  rintro e w9 ⟨rfl, T9⟩
  clear T8
  clear N4 N8
  go_wp2_with fail
  refine Tl.wp_tail_lit (by kernel_rfl) 15 [27, 28, 29, 30, 31, 32, 33, 34, 35, 36, 37, 38, 39, 40, 41] 42 rfl (by kernel_rfl) (TdW l g n c (0 + 4 + 4 + 4 + 2 + 4 + (n - 50)) w) (fun d v _ => v = tv E G a b g n p d) (fun _ _ _ _ h _ => h) ⟨T9.hr.drew, T9.hd.drew, T9.hb.drew, T9.lt, T9.bl.drew⟩
    ⟨fun a' W' hC hF => ?_, fun a' W' hC hF => ?_, fun a' W' hC hF => ?_, fun a' W' hC hF => ?_, fun a' W' hC hF => ?_, fun a' W' hC hF => ?_, fun a' W' hC hF => ?_, fun a' W' hC hF => ?_, fun a' W' hC hF => ?_, fun a' W' hC hF => ?_, fun a' W' hC hF => ?_, fun a' W' hC hF => ?_, fun a' W' hC hF => ?_, fun a' W' hC hF => ?_, fun a' W' hC hF => ?_, trivial⟩ ?_
  · exact Tl.st_v 27 _ rfl rfl hC rfl (rn_move rfl ((hF 4 (by decide +kernel)).2 (by decide)))
  · exact Tl.st_v 28 _ rfl rfl hC rfl (rn_move rfl ((hF 5 (by decide +kernel)).2 (by decide)))
  · exact Tl.st_v 29 _ rfl rfl hC rfl (rn_build24 rfl ((hF 27 (by decide +kernel)).1 (by decide)) ((hF 28 (by decide +kernel)).1 (by decide)))
  · exact Tl.st_v 30 _ rfl rfl hC rfl (rn_move rfl ((hF 6 (by decide +kernel)).2 (by decide)))
  · exact Tl.st_v 31 _ rfl rfl hC rfl (rn_ix32_0 rfl ((hF 30 (by decide +kernel)).1 (by decide)) (by omega) rfl)
  · exact Tl.st_v 32 _ rfl rfl hC rfl (rn_load5 rfl ((hF 31 (by decide +kernel)).1 (by decide)) (C12 _ hC))
  · exact Tl.st_v 33 _ rfl rfl hC rfl (rn_c53 rfl ((hF 32 (by decide +kernel)).1 (by decide)) (by omega) (by omega))
  · exact Tl.st_v 34 _ rfl rfl hC rfl (rn_move rfl ((hF 6 (by decide +kernel)).2 (by decide)))
  · exact Tl.st_v 35 _ rfl rfl hC rfl (rn_ix32_1 rfl ((hF 34 (by decide +kernel)).1 (by decide)) (by omega) rfl)
  · exact Tl.st_v 36 _ rfl rfl hC rfl (rn_load5 rfl ((hF 35 (by decide +kernel)).1 (by decide)) (C13 _ hC))
  · exact Tl.st_v 37 _ rfl rfl hC rfl (rn_c53 rfl ((hF 36 (by decide +kernel)).1 (by decide)) (by omega) (by omega))
  · exact Tl.st_v 38 _ rfl rfl hC rfl (rn_build26 rfl ((hF 33 (by decide +kernel)).1 (by decide)) ((hF 37 (by decide +kernel)).1 (by decide)))
  · exact Tl.st_v 39 _ rfl rfl hC rfl (rn_move rfl ((hF 7 (by decide +kernel)).2 (by decide)))
  · exact Tl.st_v 40 _ rfl rfl hC rfl (rn_c329 rfl ((hF 39 (by decide +kernel)).1 (by decide)) (CV _ hC))
  · exact Tl.st_v 41 _ rfl rfl hC rfl (rn_build28 rfl ((hF 29 (by decide +kernel)).1 (by decide)) ((hF 38 (by decide +kernel)).1 (by decide)) ((hF 40 (by decide +kernel)).1 (by decide)))
  · intro v W' hC hv
    obtain ⟨c0, c1, c2, c3, c4⟩ := frc_cells hC.hr
    obtain ⟨f0, f1, f2, f3, f4⟩ := frc_free hC.hr
    have v41 : v 41 = .agg (frc E G a b p) := hv 41 (by decide)
    simp only [Tl.fill, v41, frc]
    go_wp2_with fail
    exact ret_one28 Tryd.results20 rfl rfl (frc_put hC.hr _ _ _ _ _) ⟨rfl, below_put5 hC.bl (by omega) _ _ _ _ _⟩
theorem told_any (g n c : Nat) (l : List Nat) (w : World) (hb : BRow w g l) (hl : l.length = n) (hlt : ∀ x ∈ l, x < 256) (hn : 50 ≤ n) (hn2 : n ≤ 1000000) (hc : n ≤ c) :
    Calls Tryd.prog 20 #[.slice (some ⟨g, 0, none⟩) n c] w fun e w' => e = .returned (.agg (frc (n4 l 4 : Nat) (n4 l 8 : Nat) (l.getD 12 0 : Nat) (l.getD 13 0 : Nat) (ofBs ((l.drop 18).take (n - 50))))) ∧ Below w.heap.size w w' :=
  told_aux g n c l w hb hl hlt hn hn2 hc _ _ _ _ _ rfl rfl rfl rfl rfl (getD_lt l 256 (by decide) hlt 12) (getD_lt l 256 (by decide) hlt 13)
end Go.Proofs.YtnepfllbfagfnaaDoor
