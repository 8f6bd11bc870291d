/- The contract of told: a frame as a list tells it. -/
import Derived.Test.YtmpgfpmkmgebdaaGreatDoorFF2
namespace Go.Proofs.YtmpgfpmkmgebdaaGreatDoor.F
open Go.RowKit
section
variable {ev : Operand → Value} {o : Oper} {w : World} {x y : Operand}
theorem rn_build24 {a b : Int} (ho : o.op = .build 32 #[(0, x), (1, y)]) (hx : ev x = .int .i64 a) (hy : ev y = .int .i64 b) : (execOp ev o).run Tryz.prog w = .ok (.value (.agg #[.int .i64 a, .int .i64 b])) w := by
  simp [execOp, ho, hx, hy, go_sem]
theorem rn_build26 {a b : Int} (ho : o.op = .build 26 #[(0, x), (1, y)]) (hx : ev x = .int .i64 a) (hy : ev y = .int .i64 b) : (execOp ev o).run Tryz.prog w = .ok (.value (.agg #[.int .i64 a, .int .i64 b])) w := by
  simp [execOp, ho, hx, hy, go_sem]
theorem rn_build28 {a b c d : Int} {p : ByteArray} {z : Operand} (ho : o.op = .build 85 #[(0, x), (1, y), (2, z)]) (hx : ev x = .agg #[.int .i64 a, .int .i64 b]) (hy : ev y = .agg #[.int .i64 c, .int .i64 d]) (hz : ev z = .string p) : (execOp ev o).run Tryz.prog w = .ok (.value (.agg (frc a b c d p))) w := by
  simp [execOp, ho, hx, hy, hz, go_sem, frc]
theorem rn_build41 {a b c d : Int} {p : ByteArray} {z : Operand} (ho : o.op = .build 127 #[(0, x), (1, y), (2, z)]) (hx : ev x = .agg #[.int .i64 a, .int .i64 b]) (hy : ev y = .agg #[.int .i64 c, .int .i64 d]) (hz : ev z = .string p) : (execOp ev o).run Tryz.prog w = .ok (.value (.agg (frc a b c d p))) w := by
  simp [execOp, ho, hx, hy, hz, go_sem, frc]
theorem rn_ix32_0 {g f n c : Nat} (ho : o.op = .indexAddr 141 x (.const (.int .i64 0))) (hx : ev x = .slice (some ⟨g, f, none⟩) n c) (h : 0 < n) (hc : ev (.const (.int .i64 0)) = .int .i64 0) : (execOp ev o).run Tryz.prog w = .ok (.value (.pointer (some ⟨g, f, none⟩))) w := by
  have h1 : n ≠ 0 := by omega
  simp [execOp, ho, hx, hc, go_sem, h1]
theorem rn_ix32_1 {g f n c : Nat} (ho : o.op = .indexAddr 141 x (.const (.int .i64 1))) (hx : ev x = .slice (some ⟨g, f, none⟩) n c) (h : 1 < n) (hc : ev (.const (.int .i64 1)) = .int .i64 1) : (execOp ev o).run Tryz.prog w = .ok (.value (.pointer (some ⟨g, f + 1, none⟩))) w := by
  have h1 : (1 : Int) < (n : Int) := by omega
  simp [execOp, ho, hx, hc, go_sem, h1]
theorem rn_load5 {g k : Nat} {v : Value} (ho : o.op = .load 5 x) (hx : ev x = .pointer (some ⟨g, k, none⟩)) (hc : w.cell? ⟨g, k, none⟩ = some v) : (execOp ev o).run Tryz.prog w = .ok (.value v) w := by
  simp [execOp, ho, hx, go_sem, hc]
theorem rn_c329 {v : Value} {s : ByteArray} (ho : o.op = .convert 141 9 x) (hx : ev x = v) (hc : (convert 141 9 v).run Tryz.prog w = .ok (.string s) w) : (execOp ev o).run Tryz.prog w = .ok (.value (.string s)) w := by
  simp [execOp, ho, hx, go_sem, hc]
end
theorem BRow.only {W W' : World} {g b : Nat} {l : List Nat} (h : BRow W g l) (ho : Only b W W') (hne : g ≠ b) : BRow W' g l := by
  have hl := h.lt
  obtain ⟨cs, t, fr, h, r⟩ := h
  exact ⟨cs, t, fr, by rw [ho.block g hl hne]; exact h, r⟩
theorem BRow.drew {W : World} {g : Nat} {l : List Nat} (h : BRow W g l) : BRow W.drew g l := h
/-- the string of some of them -/
theorem BRow.convAt {W : World} {g : Nat} {l : List Nat} (h : BRow W g l) (f n c : Nat) (hn : f + n ≤ l.length) : (convert 141 9 (.slice (some ⟨g, f, none⟩) n c)).run Tryz.prog W = .ok (.string (ofBs ((l.drop f).take n))) W := by
  rw [run_convert_bytes_string W 141 9 5 _ _ _ Tryz.underlying141 Tryz.underlying5 Tryz.underlying9]
  have hlen : ((l.drop f).take n).length = n := by rw [List.length_take, List.length_drop]; omega
  have hl : (loadCells ⟨g, f, none⟩ n).run Tryz.prog W = .ok ((((l.drop f).take n).map fun x : Nat => (x : Int)).map (Value.int .u8)).toArray W := by
    have h2 := run_loadCells_list (P := Tryz.prog) W ⟨g, f, none⟩ (U8s ((l.drop f).take n)).toList (fun j v hv => by
      have hj : j < ((l.drop f).take n).length := by
        have := (List.getElem?_eq_some_iff.1 hv).1
        simpa [U8s] using this
      have hj' : f + j < l.length := by omega
      rw [Addr.add_mid, h.cell (f + j) hj', ← hv]
      have := U8s_get ((l.drop f).take n) j hj
      rw [Array.getElem?_toList, this]
      congr 3
      rw [List.getD_eq_getElem?_getD, List.getD_eq_getElem?_getD, List.getElem?_take_of_lt (by omega), List.getElem?_drop])
    rw [Array.length_toList, U8s_size, hlen] at h2
    rw [h2]
    simp [U8s]
    rfl
  rw [run_bytesToString W _ _ _ _ hl, fold_push]
  simp [ofBs]
theorem frc_cells {W : World} {b : Nat} {E G K N : Int} {p : ByteArray} {t : TypeId} (h : Has W b (frc E G K N p) t) :
    W.cell? ⟨b, 0, none⟩ = some (.int .i64 E) ∧ W.cell? ⟨b, 1, none⟩ = some (.int .i64 G) ∧ W.cell? ⟨b, 2, none⟩ = some (.int .i64 K) ∧ W.cell? ⟨b, 3, none⟩ = some (.int .i64 N) ∧ W.cell? ⟨b, 4, none⟩ = some (.string p) :=
  ⟨h.cell 0, h.cell 1, h.cell 2, h.cell 3, h.cell 4⟩
theorem frc_free {W : World} {b : Nat} {E G K N : Int} {p : ByteArray} {t : TypeId} (h : Has W b (frc E G K N p) t) :
    W.frozen? ⟨b, 0, none⟩ = false ∧ W.frozen? ⟨b, 1, none⟩ = false ∧ W.frozen? ⟨b, 2, none⟩ = false ∧ W.frozen? ⟨b, 3, none⟩ = false ∧ W.frozen? ⟨b, 4, none⟩ = false :=
  ⟨h.frozen 0, h.frozen 1, h.frozen 2, h.frozen 3, h.frozen 4⟩
theorem frc_put {W : World} {b : Nat} {E G K N : Int} {p : ByteArray} {t : TypeId} (h : Has W b (frc E G K N p) t) (E' G' K' N' : Int) (p' : ByteArray) :
    Has (((((W.setCell ⟨b, 0, none⟩ (.int .i64 E')).setCell ⟨b, 1, none⟩ (.int .i64 G')).setCell ⟨b, 2, none⟩ (.int .i64 K')).setCell ⟨b, 3, none⟩ (.int .i64 N')).setCell ⟨b, 4, none⟩ (.string p')) b (frc E' G' K' N' p') t := by
  have := ((((h.set 0 (.int .i64 E')).set 1 (.int .i64 G')).set 2 (.int .i64 K')).set 3 (.int .i64 N')).set 4 (.string p')
  simpa [frc] using this
theorem below_put5 {w W : World} {b : Nat} (h : Below w.heap.size w W) (hb : w.heap.size ≤ b) (v0 v1 v2 v3 v4 : Value) : Below w.heap.size w (((((W.setCell ⟨b, 0, none⟩ v0).setCell ⟨b, 1, none⟩ v1).setCell ⟨b, 2, none⟩ v2).setCell ⟨b, 3, none⟩ v3).setCell ⟨b, 4, none⟩ v4) :=
  belowSet (belowSet (belowSet (belowSet (belowSet h b 0 v0 hb) b 1 v1 hb) b 2 v2 hb) b 3 v3 hb) b 4 v4 hb
theorem info28 : (Tryz.prog.info? 85).map (·.size) = some 5 := by kernel_rfl
theorem info41 : (Tryz.prog.info? 127).map (·.size) = some 5 := by kernel_rfl
set_option maxRecDepth 20000 in
/-- a frame that lies in memory is told -/
theorem ret_one28 {fn : Func} {a : Act} {W : World} {b : Nat} {E G K N : Int} {q : ByteArray} {p : Tmp} {Q : Ending → World → Prop}
    (hf : fn.results = #[.cell p 85]) (hp : a.tmps.getD p undef = .pointer (some ⟨b, 0, none⟩)) (hd : a.defers = []) (hc : Has W b (frc E G K N q) 85)
    (hQ : Q (.returned (.agg (frc E G K N q))) W) : bodyPost Tryz.prog fn Q Exit.ret a W := by
  refine bodyPost_ret (v := .agg (frc E G K N q)) ?_ hd hQ
  rw [results_one_cell hf]
  exact ret_row (cs := (frc E G K N q).toList) hp hc.range Tryz.underlying85 rfl info28
theorem ret_frame {fn : Func} {a : Act} {W : World} {b : Nat} {E G K N : Int} {q : ByteArray} {p u : Tmp} {v : Value} {Q : Ending → World → Prop}
    (hf : fn.results = #[.cell p 85, .tmp u]) (hp : a.tmps.getD p undef = .pointer (some ⟨b, 0, none⟩)) (hv : a.tmps.getD u undef = v) (hd : a.defers = []) (hc : Has W b (frc E G K N q) 85)
    (hQ : Q (.returned (.tuple #[.agg (frc E G K N q), v])) W) : bodyPost Tryz.prog fn Q Exit.ret a W :=
  ret_cell (cs := (frc E G K N q).toList) hf hp hv hd hc.range Tryz.underlying85 rfl info28 hQ
theorem ret_frame41 {fn : Func} {a : Act} {W : World} {b : Nat} {E G K N : Int} {q : ByteArray} {p u : Tmp} {v : Value} {Q : Ending → World → Prop}
    (hf : fn.results = #[.cell p 127, .tmp u]) (hp : a.tmps.getD p undef = .pointer (some ⟨b, 0, none⟩)) (hv : a.tmps.getD u undef = v) (hd : a.defers = []) (hc : Has W b (frc E G K N q) 127)
    (hQ : Q (.returned (.tuple #[.agg (frc E G K N q), v])) W) : bodyPost Tryz.prog fn Q Exit.ret a W :=
  ret_cell (cs := (frc E G K N q).toList) hf hp hv hd hc.range Tryz.underlying127 rfl info41 hQ
set_option maxRecDepth 20000 in
theorem cutter_any (A : Option Addr) (n c : Nat) (w : World) : Calls Tryz.prog 119 #[.slice A n c] w fun e w' => e = .returned (.func (.func 138) #[] #[.pointer (some ⟨w.heap.size, 0, none⟩)]) ∧ w' = w.alloc (.cells #[.slice A n c] 141) := by
  go_enter Tryz.func119, Tryz.ntmps119
  go_wp2
  go_ret
  exact ⟨rfl, rfl⟩
/-- the memory of told: the frame that is told, what is still to be cut, the bytes -/
structure TdW (l : List Nat) (g n c f : Nat) (w W : World) : Prop where
  hr : Has W w.heap.size noF 85
  hd : Has W (w.heap.size + 1) #[.slice (some ⟨g, f, none⟩) (n - f) (c - f)] 141
  hb : BRow W g l
  lt : g < w.heap.size
  bl : Below w.heap.size w W
theorem TdW.off {l : List Nat} {g n c f : Nat} {w W : World} (h : TdW l g n c f w W) (k : Nat) (hk : f + k ≤ n) (hc : n ≤ c) (hkc : f + k < c) :
    Calls Tryz.prog 138 #[.int .i64 (k : Int), .pointer (some ⟨w.heap.size + 1, 0, none⟩)] W fun e w' => e = .returned (.slice (some ⟨g, f, none⟩) k k) ∧ TdW l g n c (f + k) w w' := by
  refine (cut_any (w.heap.size + 1) g f (n - f) (c - f) k W h.hd (by omega) (by omega) (by omega)).mono ?_
  rintro e w' ⟨rfl, h1, ho⟩
  have := h.lt
  refine ⟨rfl, h.hr.only ho (by omega), ?_, h.hb.only ho (by omega), h.lt, h.bl.trans (ho.below (Nat.le_succ _) h.bl.size)⟩
  rw [Nat.sub_sub, Nat.sub_sub] at h1
  exact h1
theorem TdW.number {l : List Nat} {g n c f : Nat} {w W : World} (h : TdW l g n c f w W) (hl : ∀ x ∈ l, x < 256) (j : Nat) (hj : j + 3 < l.length) :
    Calls Tryz.prog 120 #[.slice (some ⟨g, j, none⟩) 4 4] W fun e w' => e = .returned (.int .i64 ((n4 l j : Nat) : Int)) ∧ w' = W :=
  number_any _ _ _ _ (getD_lt l 256 (by decide) hl _) (getD_lt l 256 (by decide) hl _) (getD_lt l 256 (by decide) hl _) (getD_lt l 256 (by decide) hl _) g j W (h.hb.cell j (by omega)) (h.hb.cell (j + 1) (by omega)) (h.hb.cell (j + 2) (by omega)) (h.hb.cell (j + 3) hj)
/-- what the slots of told's last statement hold -/
def tv (E G a b g n : Nat) (p : ByteArray) : Nat → Value
  | 27 => .int .i64 (E : Int)
  | 28 => .int .i64 (G : Int)
  | 29 => .agg #[.int .i64 (E : Int), .int .i64 (G : Int)]
  | 30 => .slice (some ⟨g, 12, none⟩) 2 2
  | 31 => .pointer (some ⟨g, 12, none⟩)
  | 32 => .int .u8 (a : Int)
  | 33 => .int .i64 (a : Int)
  | 34 => .slice (some ⟨g, 12, none⟩) 2 2
  | 35 => .pointer (some ⟨g, 13, none⟩)
  | 36 => .int .u8 (b : Int)
  | 37 => .int .i64 (b : Int)
  | 38 => .agg #[.int .i64 (a : Int), .int .i64 (b : Int)]
  | 39 => .slice (some ⟨g, 18, none⟩) (n - 50) (n - 50)
  | 40 => .string p
  | _ => .agg (frc E G a b p)
set_option maxRecDepth 20000 in
set_option maxHeartbeats 2000000 in
theorem told_aux (g n c : Nat) (l : List Nat) (w : World) (hb : BRow w g l) (hl : l.length = n) (hlt : ∀ x ∈ l, x < 256) (hn : 50 ≤ n) (hn2 : n ≤ 1000000) (hc : n ≤ c)
    (E G a b : Nat) (p : ByteArray) (hE : Hid (n4 l 4 = E)) (hG : Hid (n4 l 8 = G)) (ha : Hid (l.getD 12 0 = a)) (hbb : Hid (l.getD 13 0 = b)) (hp : Hid (ofBs ((l.drop 18).take (n - 50)) = p)) (ha' : a < 256) (hb' : b < 256) :
    Calls Tryz.prog 103 #[.slice (some ⟨g, 0, none⟩) n c] w fun e w' => e = .returned (.agg (frc E G a b p)) ∧ Below w.heap.size w w' := by
  have q50 : IntKind.i64.wrap ((n : Int) - 50) = ((n - 50 : Nat) : Int) := by rw [wrap_i64_of (by omega) (by omega)]; omega
  have q51 : (n : Int) - 50 = ((n - 50 : Nat) : Int) := by omega
  have N4 : ∀ f W, TdW l g n c f w W → Calls Tryz.prog 120 #[.slice (some ⟨g, 4, none⟩) 4 4] W fun e w' => e = .returned (.int .i64 (E : Int)) ∧ w' = W := by
    intro f W h; have := h.number hlt 4 (by omega); rw [hE.out] at this; exact this
  have N8 : ∀ f W, TdW l g n c f w W → Calls Tryz.prog 120 #[.slice (some ⟨g, 8, none⟩) 4 4] W fun e w' => e = .returned (.int .i64 (G : Int)) ∧ w' = W := by
    intro f W h; have := h.number hlt 8 (by omega); rw [hG.out] at this; exact this
  have C12 : ∀ W, TdW l g n c (0 + 4 + 4 + 4 + 2 + 4 + (n - 50)) w W → W.cell? ⟨g, 12, none⟩ = some (.int .u8 (a : Int)) := fun W h => by have := h.hb.cell 12 (by omega); rw [ha.out] at this; exact this
  have C13 : ∀ W, TdW l g n c (0 + 4 + 4 + 4 + 2 + 4 + (n - 50)) w W → W.cell? ⟨g, 13, none⟩ = some (.int .u8 (b : Int)) := fun W h => by have := h.hb.cell 13 (by omega); rw [hbb.out] at this; exact this
  have CV : ∀ W, TdW l g n c (0 + 4 + 4 + 4 + 2 + 4 + (n - 50)) w W → (convert 141 9 (.slice (some ⟨g, 18, none⟩) (n - 50) (n - 50))).run Tryz.prog W = .ok (.string p) W := fun W h => by have := h.hb.convAt 18 (n - 50) (n - 50) (by omega); rw [hp.out] at this; exact this
  have T0 : TdW l g n c 0 w ((w.alloc (.cells noF 85)).alloc (.cells #[.slice (some ⟨g, 0, none⟩) n c] 141)) := by
    obtain ⟨h1, h2, h3, h4⟩ := two_new w noF #[.slice (some ⟨g, 0, none⟩) n c] 85 141
    exact ⟨h1, h2, (hb.alloc _).alloc _, hb.lt, h3⟩
  go_enter Tryz.func103, Tryz.ntmps103
  go_wp2_with fail
  refine (cutter_any _ _ _ _).mono ?_
  rintro e w1 ⟨rfl, rfl⟩
  go_wp2_with fail
  refine (T0.off 4 (by omega) hc (by omega)).mono ?_
  rintro e w2 ⟨rfl, T2⟩
  clear T0
  go_wp2_with fail
  refine (T2.off 4 (by omega) hc (by omega)).mono ?_
  rintro e w3 ⟨rfl, T3⟩
  clear T2
  go_wp2_with fail
  refine (N4 _ _ T3).mono ?_
  rintro e w4 ⟨rfl, rfl⟩
  go_wp2_with fail
  refine (T3.off 4 (by omega) hc (by omega)).mono ?_
  rintro e w5 ⟨rfl, T5⟩
  clear T3
  go_wp2_with fail
  refine (N8 _ _ T5).mono ?_
  rintro e w6 ⟨rfl, rfl⟩
  go_wp2_with fail
  refine (T5.off 2 (by omega) hc (by omega)).mono ?_
  rintro e w7 ⟨rfl, T7⟩
  clear T5
  go_wp2_with fail
  refine (T7.off 4 (by omega) hc (by omega)).mono ?_
  rintro e w8 ⟨rfl, T8⟩
  clear T7
  go_wp2_with fail
  refine (T8.off (n - 50) (by omega) hc (by omega)).mono ?_
  rintro e w9 ⟨rfl, T9⟩
  clear T8
  clear N4 N8
  go_wp2_with fail
  refine Tl.wp_tail_lit (by kernel_rfl) 15 [27, 28, 29, 30, 31, 32, 33, 34, 35, 36, 37, 38, 39, 40, 41] 42 rfl (by kernel_rfl) (TdW l g n c (0 + 4 + 4 + 4 + 2 + 4 + (n - 50)) w) (fun d v _ => v = tv E G a b g n p d) (fun _ _ _ _ h _ => h) ⟨T9.hr.drew, T9.hd.drew, T9.hb.drew, T9.lt, T9.bl.drew⟩
    ⟨fun a' W' hC hF => ?_, fun a' W' hC hF => ?_, fun a' W' hC hF => ?_, fun a' W' hC hF => ?_, fun a' W' hC hF => ?_, fun a' W' hC hF => ?_, fun a' W' hC hF => ?_, fun a' W' hC hF => ?_, fun a' W' hC hF => ?_, fun a' W' hC hF => ?_, fun a' W' hC hF => ?_, fun a' W' hC hF => ?_, fun a' W' hC hF => ?_, fun a' W' hC hF => ?_, fun a' W' hC hF => ?_, trivial⟩ ?_
  · exact Tl.st_v 27 _ rfl rfl hC rfl (rn_move rfl ((hF 4 (by decide +kernel)).2 (by decide)))
  · exact Tl.st_v 28 _ rfl rfl hC rfl (rn_move rfl ((hF 5 (by decide +kernel)).2 (by decide)))
  · exact Tl.st_v 29 _ rfl rfl hC rfl (rn_build24 rfl ((hF 27 (by decide +kernel)).1 (by decide)) ((hF 28 (by decide +kernel)).1 (by decide)))
  · exact Tl.st_v 30 _ rfl rfl hC rfl (rn_move rfl ((hF 6 (by decide +kernel)).2 (by decide)))
  · exact Tl.st_v 31 _ rfl rfl hC rfl (rn_ix32_0 rfl ((hF 30 (by decide +kernel)).1 (by decide)) (by omega) rfl)
  · exact Tl.st_v 32 _ rfl rfl hC rfl (rn_load5 rfl ((hF 31 (by decide +kernel)).1 (by decide)) (C12 _ hC))
  · exact Tl.st_v 33 _ rfl rfl hC rfl (rn_c53 rfl ((hF 32 (by decide +kernel)).1 (by decide)) (by omega) (by omega))
  · exact Tl.st_v 34 _ rfl rfl hC rfl (rn_move rfl ((hF 6 (by decide +kernel)).2 (by decide)))
  · exact Tl.st_v 35 _ rfl rfl hC rfl (rn_ix32_1 rfl ((hF 34 (by decide +kernel)).1 (by decide)) (by omega) rfl)
  · exact Tl.st_v 36 _ rfl rfl hC rfl (rn_load5 rfl ((hF 35 (by decide +kernel)).1 (by decide)) (C13 _ hC))
  · exact Tl.st_v 37 _ rfl rfl hC rfl (rn_c53 rfl ((hF 36 (by decide +kernel)).1 (by decide)) (by omega) (by omega))
  · exact Tl.st_v 38 _ rfl rfl hC rfl (rn_build26 rfl ((hF 33 (by decide +kernel)).1 (by decide)) ((hF 37 (by decide +kernel)).1 (by decide)))
  · exact Tl.st_v 39 _ rfl rfl hC rfl (rn_move rfl ((hF 7 (by decide +kernel)).2 (by decide)))
  · exact Tl.st_v 40 _ rfl rfl hC rfl (rn_c329 rfl ((hF 39 (by decide +kernel)).1 (by decide)) (CV _ hC))
  · exact Tl.st_v 41 _ rfl rfl hC rfl (rn_build28 rfl ((hF 29 (by decide +kernel)).1 (by decide)) ((hF 38 (by decide +kernel)).1 (by decide)) ((hF 40 (by decide +kernel)).1 (by decide)))
  · intro v W' hC hv
    obtain ⟨c0, c1, c2, c3, c4⟩ := frc_cells hC.hr
    obtain ⟨f0, f1, f2, f3, f4⟩ := frc_free hC.hr
    have v41 : v 41 = .agg (frc E G a b p) := hv 41 (by decide)
    simp only [Tl.fill, v41, frc]
    go_wp2_with fail
    exact ret_one28 Tryz.results103 rfl rfl (frc_put hC.hr _ _ _ _ _) ⟨rfl, below_put5 hC.bl (by omega) _ _ _ _ _⟩
theorem told_any (g n c : Nat) (l : List Nat) (w : World) (hb : BRow w g l) (hl : l.length = n) (hlt : ∀ x ∈ l, x < 256) (hn : 50 ≤ n) (hn2 : n ≤ 1000000) (hc : n ≤ c) :
    Calls Tryz.prog 103 #[.slice (some ⟨g, 0, none⟩) n c] w fun e w' => e = .returned (.agg (frc (n4 l 4 : Nat) (n4 l 8 : Nat) (l.getD 12 0 : Nat) (l.getD 13 0 : Nat) (ofBs ((l.drop 18).take (n - 50))))) ∧ Below w.heap.size w w' :=
  told_aux g n c l w hb hl hlt hn hn2 hc _ _ _ _ _ rfl rfl rfl rfl rfl (getD_lt l 256 (by decide) hlt 12) (getD_lt l 256 (by decide) hlt 13)
end Go.Proofs.YtmpgfpmkmgebdaaGreatDoor.F
/- The contracts of written and Make: a frame's bytes. Printed in part by gen_f4.py. -/
namespace Go.Proofs.YtmpgfpmkmgebdaaGreatDoor.F
open Go.RowKit
section
variable {ev : Operand → Value} {o : Oper} {w : World} {x y : Operand}
theorem rn_f28_0 {g : Nat} (ho : o.op = .fieldAddr 85 x 0) (hx : ev x = .pointer (some ⟨g, 0, none⟩)) : (execOp ev o).run Tryz.prog w = .ok (.value (.pointer (some ⟨g, 0, none⟩))) w := by
  simp [execOp, ho, hx, go_sem]
theorem rn_f28_2 {g : Nat} (ho : o.op = .fieldAddr 85 x 2) (hx : ev x = .pointer (some ⟨g, 0, none⟩)) : (execOp ev o).run Tryz.prog w = .ok (.value (.pointer (some ⟨g, 4, none⟩))) w := by
  simp [execOp, ho, hx, go_sem]
theorem rn_f41_0 {g : Nat} (ho : o.op = .fieldAddr 127 x 0) (hx : ev x = .pointer (some ⟨g, 0, none⟩)) : (execOp ev o).run Tryz.prog w = .ok (.value (.pointer (some ⟨g, 0, none⟩))) w := by
  simp [execOp, ho, hx, go_sem]
theorem rn_f41_1 {g : Nat} (ho : o.op = .fieldAddr 127 x 1) (hx : ev x = .pointer (some ⟨g, 0, none⟩)) : (execOp ev o).run Tryz.prog w = .ok (.value (.pointer (some ⟨g, 2, none⟩))) w := by
  simp [execOp, ho, hx, go_sem]
theorem rn_f41_2 {g : Nat} (ho : o.op = .fieldAddr 127 x 2) (hx : ev x = .pointer (some ⟨g, 0, none⟩)) : (execOp ev o).run Tryz.prog w = .ok (.value (.pointer (some ⟨g, 4, none⟩))) w := by
  simp [execOp, ho, hx, go_sem]
theorem rn_f24_0 {g k : Nat} (ho : o.op = .fieldAddr 32 x 0) (hx : ev x = .pointer (some ⟨g, k, none⟩)) : (execOp ev o).run Tryz.prog w = .ok (.value (.pointer (some ⟨g, k, none⟩))) w := by
  simp [execOp, ho, hx, go_sem]
theorem rn_f24_1 {g k : Nat} (ho : o.op = .fieldAddr 32 x 1) (hx : ev x = .pointer (some ⟨g, k, none⟩)) : (execOp ev o).run Tryz.prog w = .ok (.value (.pointer (some ⟨g, k + 1, none⟩))) w := by
  simp [execOp, ho, hx, go_sem]
theorem rn_f26_0 {g k : Nat} (ho : o.op = .fieldAddr 26 x 0) (hx : ev x = .pointer (some ⟨g, k, none⟩)) : (execOp ev o).run Tryz.prog w = .ok (.value (.pointer (some ⟨g, k, none⟩))) w := by
  simp [execOp, ho, hx, go_sem]
theorem rn_f26_1 {g k : Nat} (ho : o.op = .fieldAddr 26 x 1) (hx : ev x = .pointer (some ⟨g, k, none⟩)) : (execOp ev o).run Tryz.prog w = .ok (.value (.pointer (some ⟨g, k + 1, none⟩))) w := by
  simp [execOp, ho, hx, go_sem]
theorem rn_add9 {u v z : ByteArray} (ho : o.op = .binOp .add 9 x y 9) (hx : ev x = .string u) (hy : ev y = .string v) (hz : u ++ v = z) (h : ¬ 9223372036854775807 < u.size + v.size) : (execOp ev o).run Tryz.prog w = .ok (.value (.string z)) w := by
  subst hz
  simp [execOp, ho, hx, hy, go_sem, h]
theorem enter28 (args : Array Value) : (callFunc 94 args).run Tryz.prog w = .ok (.enter 94 args) w := by kernel_rfl
theorem enter25 (args : Array Value) : (callFunc 106 args).run Tryz.prog w = .ok (.enter 106 args) w := by kernel_rfl
theorem enter27 (args : Array Value) : (callFunc 83 args).run Tryz.prog w = .ok (.enter 83 args) w := by kernel_rfl
end
/-- the memory of written: the frame -/
structure WtW (c : Array Value) (w W : World) : Prop where
  hs : Has W w.heap.size c 85
  bl : Below w.heap.size w W
theorem WtW.next {c : Array Value} {w W W' : World} (h : WtW c w W) (hb : Below W.heap.size W W') : WtW c w W' :=
  ⟨h.hs.below hb h.hs.lt, belowCall h.bl hb⟩
theorem WtW.drew {c : Array Value} {w W : World} (h : WtW c w W) : WtW c w W.drew := ⟨h.hs.drew, h.bl.drew⟩
/-- two bytes that were made, as a string -/
theorem conv2 (K N : Nat) (w : World) : (convert 141 9 (.slice (some ⟨w.heap.size, 0, none⟩) 2 2)).run Tryz.prog (w.alloc (.cells #[.int .u8 (K : Int), .int .u8 (N : Int)] 5)) = .ok (.string (ofBs [K, N])) (w.alloc (.cells #[.int .u8 (K : Int), .int .u8 (N : Int)] 5)) :=
  conv_str _ _ [K, N] 5 2 (Has.new _ _ _ _ rfl)
/-- what the slots of written hold -/
def wv1 (n E G : Nat) (A B AB : ByteArray) : Nat → Value
  | 6 => .pointer (some ⟨n, 0, none⟩)
  | 7 => .pointer (some ⟨n, 0, none⟩)
  | 8 => .int .i64 (E : Int)
  | 9 => .string A
  | 10 => .pointer (some ⟨n, 0, none⟩)
  | 11 => .pointer (some ⟨n, 1, none⟩)
  | 12 => .int .i64 (G : Int)
  | 13 => .string B
  | 14 => .string AB
  | 3 => .string AB
  | _ => undef
def wv3 (n : Nat) (AB C D p S1 S2 S3 S4 : ByteArray) : Nat → Value
  | 25 => .string AB
  | 26 => .string S1
  | 27 => .string C
  | 28 => .string S2
  | 29 => .pointer (some ⟨n, 4, none⟩)
  | 30 => .string p
  | 31 => .int .i64 (p.size : Int)
  | 32 => .string D
  | 33 => .string S3
  | 34 => .pointer (some ⟨n, 4, none⟩)
  | 35 => .string p
  | 36 => .string S4
  | 5 => .string S4
  | _ => undef
set_option maxRecDepth 20000 in
theorem written_aux (E G K N : Nat) (p : ByteArray) (hE : E < 2147483648) (hG : G < 2147483648) (hK : K < 256) (hN : N < 256) (hp : p.size ≤ 65536) (w : World) (ht : Tabs w)
    (A B AB C D S1 S2 S3 S4 X Y : ByteArray) (eA : Hid (ofBs (be4 E) = A)) (eB : Hid (ofBs (be4 G) = B)) (eAB : A ++ B = AB) (eC : Hid (ofBs [K, N] = C)) (eD : Hid (ofBs (be4 p.size) = D))
    (e1 : ⟨#[109, 97, 110, 49]⟩ ++ AB = S1) (e2 : S1 ++ C = S2) (e3 : S2 ++ D = S3) (e4 : S3 ++ p = S4) (eX : Hid (ofBs (Sha.digest (bs S4)) = X)) (eY : Hid (S4 ++ X = Y)) :
    Calls Tryz.prog 67 #[.agg (frc E G K N p)] w fun e w' => e = .returned (.string Y) ∧ Below w.heap.size w w' := by
  have HA : Hid (∀ W, Calls Tryz.prog 94 #[.int .i64 (E : Int)] W fun e w' => e = .returned (.string A) ∧ Below W.heap.size W w') := fun W => by have := four_any E hE W; rw [eA.out] at this; exact this
  have HB : Hid (∀ W, Calls Tryz.prog 94 #[.int .i64 (G : Int)] W fun e w' => e = .returned (.string B) ∧ Below W.heap.size W w') := fun W => by have := four_any G hG W; rw [eB.out] at this; exact this
  have HD : Hid (∀ W, Calls Tryz.prog 94 #[.int .i64 (p.size : Int)] W fun e w' => e = .returned (.string D) ∧ Below W.heap.size W w') := fun W => by have := four_any p.size (by omega) W; rw [eD.out] at this; exact this
  have HC : ∀ w : World, (convert 141 9 (.slice (some ⟨w.heap.size, 0, none⟩) 2 2)).run Tryz.prog (w.alloc (.cells #[.int .u8 (K : Int), .int .u8 (N : Int)] 5)) = .ok (.string C) (w.alloc (.cells #[.int .u8 (K : Int), .int .u8 (N : Int)] 5)) := fun w => by have := conv2 K N w; rw [eC.out] at this; exact this
  have zA : A.size = 4 := by rw [← eA.out, ofBs_size]; rfl
  have zB : B.size = 4 := by rw [← eB.out, ofBs_size]; rfl
  have zD : D.size = 4 := by rw [← eD.out, ofBs_size]; rfl
  have zC : C.size = 2 := by rw [← eC.out, ofBs_size]; rfl
  have zX : X.size = 32 := by rw [← eX.out, ofBs_size, digest_length]
  have zAB : AB.size = 8 := by rw [← eAB, ByteArray.size_append]; omega
  have z1 : S1.size = 12 := by rw [← e1, ByteArray.size_append, zAB]; rfl
  have z2 : S2.size = 14 := by rw [← e2, ByteArray.size_append]; omega
  have z3 : S3.size = 18 := by rw [← e3, ByteArray.size_append]; omega
  have z4 : S4.size = 18 + p.size := by rw [← e4, ByteArray.size_append]; omega
  have HS : Hid (∀ W, Tabs W → Calls Tryz.prog 95 #[.string S4] W fun e w' => e = .returned (.string X) ∧ Below W.heap.size W w') := fun W h => by
    have := sum_any W h S4 (by omega); rw [eX.out] at this; exact this
  have m0 : (⟨#[109, 97, 110, 49]⟩ : ByteArray).size = 4 := rfl
  have s1 : ¬ 9223372036854775807 < A.size + B.size := by omega
  have s2 : ¬ 9223372036854775807 < (⟨#[109, 97, 110, 49]⟩ : ByteArray).size + AB.size := by omega
  have s3 : ¬ 9223372036854775807 < S1.size + C.size := by omega
  have s4 : ¬ 9223372036854775807 < S2.size + D.size := by omega
  have s5 : ¬ 9223372036854775807 < S3.size + p.size := by omega
  have s6 : ¬ 9223372036854775807 < S4.size + X.size := by omega
  clear zA zB zC zD zX zAB z1 z2 z3 z4 m0 eA eB eC eD eX
  have k1 : (K : Int) < 256 := by omega
  have k2 : (N : Int) < 256 := by omega
  unfold frc
  go_enter Tryz.func67, Tryz.ntmps67
  go_wp2_with fail
  have T0 : WtW (frc E G K N p) w (w.alloc (.cells (frc E G K N p) 85)) := ⟨Has.new _ _ _ _ rfl, (Below.refl _ _).alloc (Nat.le_refl _) _⟩
  refine Tl.wp_tail_lit (by kernel_rfl) 10 [6, 7, 8, 9, 10, 11, 12, 13, 14, 3] 41 rfl (by kernel_rfl) (WtW (frc E G K N p) w) (fun d v _ => v = wv1 w.heap.size E G A B AB d) (fun _ _ _ _ h _ => h) T0.drew
    ⟨fun a' W' hC hF => ?_, fun a' W' hC hF => ?_, fun a' W' hC hF => ?_, fun a' W' hC hF => ?_, fun a' W' hC hF => ?_, fun a' W' hC hF => ?_, fun a' W' hC hF => ?_, fun a' W' hC hF => ?_, fun a' W' hC hF => ?_, fun a' W' hC hF => ?_, trivial⟩ ?_
  · exact Tl.st_v 6 _ rfl rfl hC rfl (rn_f28_0 rfl ((hF 1 (by decide +kernel)).2 (by decide)))
  · exact Tl.st_v 7 _ rfl rfl hC rfl (rn_f24_0 rfl ((hF 6 (by decide +kernel)).1 (by decide)))
  · exact Tl.st_v 8 _ rfl rfl hC rfl (rn_load3 rfl ((hF 7 (by decide +kernel)).1 (by decide)) (frc_cells hC.hs).1)
  · exact Tl.st_call 9 94 _ rfl (Tl.wanted_none rfl) (rn_call1 rfl rfl ((hF 8 (by decide +kernel)).1 (by decide)) (enter28 _)) ((HA.out W').mono fun e w'' h => ⟨_, h.1, hC.next h.2, h.2, rfl⟩)
  · exact Tl.st_v 10 _ rfl rfl hC rfl (rn_f28_0 rfl ((hF 1 (by decide +kernel)).2 (by decide)))
  · exact Tl.st_v 11 _ rfl rfl hC rfl (rn_f24_1 rfl ((hF 10 (by decide +kernel)).1 (by decide)))
  · exact Tl.st_v 12 _ rfl rfl hC rfl (rn_load3 rfl ((hF 11 (by decide +kernel)).1 (by decide)) (frc_cells hC.hs).2.1)
  · exact Tl.st_call 13 94 _ rfl (Tl.wanted_none rfl) (rn_call1 rfl rfl ((hF 12 (by decide +kernel)).1 (by decide)) (enter28 _)) ((HB.out W').mono fun e w'' h => ⟨_, h.1, hC.next h.2, h.2, rfl⟩)
  · exact Tl.st_v 14 _ rfl rfl hC rfl (rn_add9 rfl ((hF 9 (by decide +kernel)).1 (by decide)) ((hF 13 (by decide +kernel)).1 (by decide)) eAB s1)
  · exact Tl.st_v 3 _ rfl rfl hC rfl (rn_assign rfl ((hF 14 (by decide +kernel)).1 (by decide)))
  · intro v W1 T1 hv
    have v3 : v 3 = .string AB := hv 3 (by decide)
    obtain ⟨c0, c1, c2, c3, c4⟩ := frc_cells T1.hs
    clear hv T0 HA HB s1
    simp only [Tl.fill, v3, List.drop_succ_cons, List.drop_zero, wpList]
    simp only [Act.put, List.setIfInBounds_toArray, List.set_cons_succ, List.set_cons_zero]
    go_wp2_with fail
    have T2 := T1.next ((Below.refl _ _).alloc (Nat.le_refl _) (.cells #[.int .u8 (K : Int), .int .u8 (N : Int)] 5))
    clear T1 c0 c1 c2 c3 c4
    refine Tl.wp_tail_lit (by kernel_rfl) 13 [25, 26, 27, 28, 29, 30, 31, 32, 33, 34, 35, 36, 5] 41 rfl (by kernel_rfl) (WtW (frc E G K N p) w) (fun d v _ => v = wv3 w.heap.size AB C D p S1 S2 S3 S4 d) (fun _ _ _ _ h _ => h) T2.drew
      ⟨fun a' W' hC hF => ?_, fun a' W' hC hF => ?_, fun a' W' hC hF => ?_, fun a' W' hC hF => ?_, fun a' W' hC hF => ?_, fun a' W' hC hF => ?_, fun a' W' hC hF => ?_, fun a' W' hC hF => ?_, fun a' W' hC hF => ?_, fun a' W' hC hF => ?_, fun a' W' hC hF => ?_, fun a' W' hC hF => ?_, fun a' W' hC hF => ?_, trivial⟩ ?_
    · exact Tl.st_v 25 _ rfl rfl hC rfl (rn_move rfl ((hF 3 (by decide +kernel)).2 (by decide)))
    · exact Tl.st_v 26 _ rfl rfl hC rfl (rn_add9 rfl rfl ((hF 25 (by decide +kernel)).1 (by decide)) e1 s2)
    · exact Tl.st_v 27 _ rfl rfl hC rfl (rn_move rfl ((hF 4 (by decide +kernel)).2 (by decide)))
    · exact Tl.st_v 28 _ rfl rfl hC rfl (rn_add9 rfl ((hF 26 (by decide +kernel)).1 (by decide)) ((hF 27 (by decide +kernel)).1 (by decide)) e2 s3)
    · exact Tl.st_v 29 _ rfl rfl hC rfl (rn_f28_2 rfl ((hF 1 (by decide +kernel)).2 (by decide)))
    · exact Tl.st_v 30 _ rfl rfl hC rfl (rn_load9 rfl ((hF 29 (by decide +kernel)).1 (by decide)) (frc_cells hC.hs).2.2.2.2)
    · exact Tl.st_v 31 _ rfl rfl hC rfl (rn_len9 rfl ((hF 30 (by decide +kernel)).1 (by decide)) )
    · exact Tl.st_call 32 94 _ rfl (Tl.wanted_none rfl) (rn_call1 rfl rfl ((hF 31 (by decide +kernel)).1 (by decide)) (enter28 _)) ((HD.out W').mono fun e w'' h => ⟨_, h.1, hC.next h.2, h.2, rfl⟩)
    · exact Tl.st_v 33 _ rfl rfl hC rfl (rn_add9 rfl ((hF 28 (by decide +kernel)).1 (by decide)) ((hF 32 (by decide +kernel)).1 (by decide)) e3 s4)
    · exact Tl.st_v 34 _ rfl rfl hC rfl (rn_f28_2 rfl ((hF 1 (by decide +kernel)).2 (by decide)))
    · exact Tl.st_v 35 _ rfl rfl hC rfl (rn_load9 rfl ((hF 34 (by decide +kernel)).1 (by decide)) (frc_cells hC.hs).2.2.2.2)
    · exact Tl.st_v 36 _ rfl rfl hC rfl (rn_add9 rfl ((hF 33 (by decide +kernel)).1 (by decide)) ((hF 35 (by decide +kernel)).1 (by decide)) e4 s5)
    · exact Tl.st_v 5 _ rfl rfl hC rfl (rn_assign rfl ((hF 36 (by decide +kernel)).1 (by decide)))
    · intro v W3 T3 hv
      have v5 : v 5 = .string S4 := hv 5 (by decide)
      clear hv T2 HD s2 s3 s4 s5 HC
      simp only [Tl.fill, v5, List.drop_succ_cons, List.drop_zero, wpList]
      simp only [Act.put, List.setIfInBounds_toArray, List.set_cons_succ, List.set_cons_zero]
      go_wp2_with fail
      refine (HS.out W3 (ht.below' T3.bl)).mono ?_
      rintro e w4 ⟨rfl, b4⟩
      have T4 := T3.next b4
      go_wp2_with fail
      go_ret
      exact ⟨by rw [eY.out]; rfl, T4.bl⟩
end Go.Proofs.YtmpgfpmkmgebdaaGreatDoor.F
