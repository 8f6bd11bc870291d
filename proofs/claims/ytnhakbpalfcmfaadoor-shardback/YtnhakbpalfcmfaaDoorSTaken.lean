/- The contract of takenOff: a shard as data tell it. -/
import Derived.Test.YtnhakbpalfcmfaaDoorSMake
import Derived.Test.YtnhakbpalfcmfaaDoorSParse
namespace Go.Proofs.YtnhakbpalfcmfaaDoor
open Go.RowKit
theorem clone_any (s : ByteArray) (hs : s.size ≤ 1000000) (w : World) :
    Calls Tryd.prog 39 #[.string s] w fun e w' => e = .returned (.string s) ∧ Below w.heap.size w w' := by
  go_enter Tryd.func39, Tryd.ntmps39
  go_wp2_with fail
  refine (Tryd.stringslite_Clone s w (by omega)).mono ?_
  rintro e w1 ⟨rfl, b1⟩
  go_wp2_with fail
  go_ret
  exact ⟨rfl, b1⟩
theorem take_any (s : ByteArray) (b k : Nat) (w : World) (hb : Has w b #[.string s] 9) (hk : k ≤ s.size) (hs : s.size ≤ 1000000) :
    Calls Tryd.prog 38 #[.int .i64 (k : Int), .pointer (some ⟨b, 0, none⟩)] w fun e w' => e = .returned (.string (s.extract 0 k)) ∧ Has w' b #[.string (s.extract k s.size)] 9 ∧ Only b w w' := by
  have c0 : w.cell? ⟨b, 0, none⟩ = some (.string s) := hb.cell 0
  have q1 : (k : Int) ≤ (s.size : Int) := by omega
  go_enter Tryd.func38, Tryd.ntmps38
  go_wp2_with fail
  refine (clone_any (s.extract 0 k) (by rw [ByteArray.size_extract]; omega) w).mono ?_
  rintro e w1 ⟨rfl, b1⟩
  have h1 := hb.below b1 hb.lt
  have c1 : w1.cell? ⟨b, 0, none⟩ = some (.string s) := h1.cell 0
  have f1 := h1.frozen 0
  clear c0
  go_wp2_with fail
  go_ret
  exact ⟨rfl, h1.set 0 _, (Only.of_below b1).setCell 0 _⟩
theorem ext1 (s : ByteArray) (c k : Nat) : (s.extract c s.size).extract 0 k = s.extract c (c + k) := by
  apply bs_inj
  rw [bs_extract, bs_extract, bs_extract, List.drop_zero, ← bs_length, List.take_length, List.take_drop]
theorem ext2 (s : ByteArray) (c k : Nat) : (s.extract c s.size).extract k (s.extract c s.size).size = s.extract (c + k) s.size := by
  apply bs_inj
  have e : ∀ c, bs (s.extract c s.size) = (bs s).drop c := fun c => bs_drop s c
  rw [bs_drop, e, e, List.drop_drop]
theorem off_any (s : ByteArray) (b c k : Nat) (w : World) (hb : Has w b #[.string (s.extract c s.size)] 9) (hk : c + k ≤ s.size) (hs : s.size ≤ 1000000) :
    Calls Tryd.prog 38 #[.int .i64 (k : Int), .pointer (some ⟨b, 0, none⟩)] w fun e w' => e = .returned (.string (s.extract c (c + k))) ∧ Has w' b #[.string (s.extract (c + k) s.size)] 9 ∧ Only b w w' := by
  have hz : (s.extract c s.size).size = s.size - c := by rw [ByteArray.size_extract]; omega
  have := take_any (s.extract c s.size) b k w hb (by omega) (by omega)
  rw [ext1 s c k, ext2 s c k] at this
  exact this
/-- the fields that data tell -/
def fB (s : ByteArray) (j : Nat) : Int := (((bs s).getD j 0 : Nat) : Int)
def fD (s : ByteArray) : ByteArray := s.extract 11 43
def fP (s : ByteArray) : ByteArray := s.extract 43 (s.size - 32)
theorem fB_byte (s : ByteArray) (j : Nat) : 0 ≤ fB s j ∧ fB s j < 256 := by
  unfold fB
  have := getD_lt (bs s) 256 (by decide) (bs_lt s) j
  omega
def noS : Array Value := shc 0 0 ⟨#[]⟩ 0 ⟨#[]⟩
structure TkW (s : ByteArray) (c : Nat) (w W : World) : Prop where
  hd : Has W w.heap.size #[.string (s.extract c s.size)] 9
  hr : Has W (w.heap.size + 1) noS 25
  bl : Below w.heap.size w W
theorem TkW.next {s : ByteArray} {c c' : Nat} {w W W' : World} (h : TkW s c w W) (h' : Has W' w.heap.size #[.string (s.extract c' s.size)] 9) (ho : Only w.heap.size W W') : TkW s c' w W' :=
  ⟨h', h.hr.only ho (by omega), h.bl.trans (ho.below (Nat.le_refl _) h.bl.size)⟩
theorem noS_cells {W : World} {b : Nat} {t : TypeId} (h : Has W b noS t) :
    W.cell? ⟨b, 0, none⟩ = some (.int .i64 0) ∧ W.cell? ⟨b, 1, none⟩ = some (.int .i64 0) ∧ W.cell? ⟨b, 2, none⟩ = some (.string ⟨#[]⟩) ∧ W.cell? ⟨b, 3, none⟩ = some (.int .i64 0) ∧ W.cell? ⟨b, 4, none⟩ = some (.string ⟨#[]⟩) ∧ W.frozen? ⟨b, 0, none⟩ = false ∧ W.frozen? ⟨b, 1, none⟩ = false ∧ W.frozen? ⟨b, 2, none⟩ = false ∧ W.frozen? ⟨b, 3, none⟩ = false ∧ W.frozen? ⟨b, 4, none⟩ = false :=
  ⟨h.cell 0, h.cell 1, h.cell 2, h.cell 3, h.cell 4, h.frozen 0, h.frozen 1, h.frozen 2, h.frozen 3, h.frozen 4⟩
theorem shc_put {W : World} {b : Nat} {K N i : Int} {d p : ByteArray} {t : TypeId} (h : Has W b (shc K N d i p) t) (K' N' i' : Int) (d' p' : ByteArray) :
    Has (((((W.setCell ⟨b, 0, none⟩ (.int .i64 K')).setCell ⟨b, 1, none⟩ (.int .i64 N')).setCell ⟨b, 2, none⟩ (.string d')).setCell ⟨b, 3, none⟩ (.int .i64 i')).setCell ⟨b, 4, none⟩ (.string p')) b (shc K' N' d' i' p') t := by
  have := ((((h.set 0 (.int .i64 K')).set 1 (.int .i64 N')).set 2 (.string d')).set 3 (.int .i64 i')).set 4 (.string p')
  simpa [shc] using this
theorem below_put5 {w W : World} {b : Nat} (h : Below w.heap.size w W) (hb : w.heap.size ≤ b) (v0 v1 v2 v3 v4 : Value) : Below w.heap.size w (((((W.setCell ⟨b, 0, none⟩ v0).setCell ⟨b, 1, none⟩ v1).setCell ⟨b, 2, none⟩ v2).setCell ⟨b, 3, none⟩ v3).setCell ⟨b, 4, none⟩ v4) :=
  belowSet (belowSet (belowSet (belowSet (belowSet h b 0 v0 hb) b 1 v1 hb) b 2 v2 hb) b 3 v3 hb) b 4 v4 hb
theorem info25 : (Tryd.prog.info? 25).map (·.size) = some 5 := by kernel_rfl
theorem info33 : (Tryd.prog.info? 33).map (·.size) = some 5 := by kernel_rfl
set_option maxRecDepth 20000 in
/-- a shard that lies in memory is told -/
theorem ret_one25 {fn : Func} {a : Act} {W : World} {b : Nat} {K N i : Int} {d q : ByteArray} {p : Tmp} {Q : Ending → World → Prop}
    (hf : fn.results = #[.cell p 25]) (hp : a.tmps.getD p undef = .pointer (some ⟨b, 0, none⟩)) (hd : a.defers = []) (hc : Has W b (shc K N d i q) 25)
    (hQ : Q (.returned (.agg (shc K N d i q))) W) : bodyPost Tryd.prog fn Q Exit.ret a W := by
  refine bodyPost_ret (v := .agg (shc K N d i q)) ?_ hd hQ
  rw [results_one_cell hf]
  exact ret_row (cs := (shc K N d i q).toList) hp hc.range Tryd.underlying25 rfl info25
theorem ret_shard {fn : Func} {a : Act} {W : World} {b : Nat} {K N i : Int} {d q : ByteArray} {p u : Tmp} {v : Value} {Q : Ending → World → Prop}
    (hf : fn.results = #[.cell p 25, .tmp u]) (hp : a.tmps.getD p undef = .pointer (some ⟨b, 0, none⟩)) (hv : a.tmps.getD u undef = v) (hd : a.defers = []) (hc : Has W b (shc K N d i q) 25)
    (hQ : Q (.returned (.tuple #[.agg (shc K N d i q), v])) W) : bodyPost Tryd.prog fn Q Exit.ret a W :=
  ret_cell (cs := (shc K N d i q).toList) hf hp hv hd hc.range Tryd.underlying25 rfl info25 hQ
theorem ret_shard33 {fn : Func} {a : Act} {W : World} {b : Nat} {K N i : Int} {d q : ByteArray} {p u : Tmp} {v : Value} {Q : Ending → World → Prop}
    (hf : fn.results = #[.cell p 33, .tmp u]) (hp : a.tmps.getD p undef = .pointer (some ⟨b, 0, none⟩)) (hv : a.tmps.getD u undef = v) (hd : a.defers = []) (hc : Has W b (shc K N d i q) 33)
    (hQ : Q (.returned (.tuple #[.agg (shc K N d i q), v])) W) : bodyPost Tryd.prog fn Q Exit.ret a W :=
  ret_cell (cs := (shc K N d i q).toList) hf hp hv hd hc.range Tryd.underlying33 rfl info33 hQ
/-- what the slots of takenOff's last statement hold -/
def tv (A s : ByteArray) : Nat → Value
  | 21 => .string A
  | 22 => .int .u8 ((bs s).getD 4 0 : Nat)
  | 23 => .int .i64 (fB s 4)
  | 24 => .string A
  | 25 => .int .u8 ((bs s).getD 5 0 : Nat)
  | 26 => .int .i64 (fB s 5)
  | 27 => .agg #[.int .i64 (fB s 4), .int .i64 (fB s 5)]
  | 28 => .string (fD s)
  | 29 => .string A
  | 30 => .int .u8 ((bs s).getD 6 0 : Nat)
  | 31 => .int .i64 (fB s 6)
  | 32 => .string (fP s)
  | _ => .agg (shc (fB s 4) (fB s 5) (fD s) (fB s 6) (fP s))
set_option maxRecDepth 20000 in
theorem taken_any (s : ByteArray) (h : 75 ≤ s.size) (hs : s.size ≤ 1000000) (w : World) :
    Calls Tryd.prog 21 #[.string s] w fun e w' => e = .returned (.agg (shc (fB s 4) (fB s 5) (fD s) (fB s 6) (fP s))) ∧ Below w.heap.size w w' := by
  go_enter Tryd.func21, Tryd.ntmps21
  go_wp2_with fail
  have T0 : TkW s 0 w ((w.alloc (.cells #[.string s] 9)).alloc (.cells noS 25)) := by
    obtain ⟨h1, h2, h3, h4⟩ := two_new w #[.string s] noS 9 25
    refine ⟨?_, h2, h3⟩
    have e : s.extract 0 s.size = s := by apply bs_inj; rw [bs_extract, ← bs_length, List.take_length]; rfl
    rw [e]; exact h1
  refine (off_any s w.heap.size 0 4 _ T0.hd (by omega) hs).mono ?_
  rintro e w1 ⟨rfl, h1, o1⟩
  have T1 := T0.next h1 o1
  clear T0 h1 o1
  go_wp2_with fail
  refine (off_any s w.heap.size 4 3 _ T1.hd (by omega) hs).mono ?_
  rintro e w2 ⟨rfl, h2, o2⟩
  have T2 := T1.next h2 o2
  clear T1 h2 o2
  go_wp2_with fail
  refine (off_any s w.heap.size 7 4 _ T2.hd (by omega) hs).mono ?_
  rintro e w3 ⟨rfl, h3, o3⟩
  have T3 := T2.next h3 o3
  clear T2 h3 o3
  go_wp2_with fail
  refine (off_any s w.heap.size 11 32 _ T3.hd (by omega) hs).mono ?_
  rintro e w4 ⟨rfl, h4, o4⟩
  have T4 := T3.next h4 o4
  clear T3 h4 o4
  have c4 : w4.cell? ⟨w.heap.size, 0, none⟩ = some (.string (s.extract (11 + 32) s.size)) := T4.hd.cell 0
  have eP : s.extract 43 (43 + (s.size - 75)) = fP s := by unfold fP; congr 1; omega
  have HL : Calls Tryd.prog 38 #[.int .i64 (((s.size - 43 : Nat) : Int) - 32), .pointer (some ⟨w.heap.size, 0, none⟩)] w4 fun e w' => e = .returned (.string (fP s)) ∧ Has w' w.heap.size #[.string (s.extract (43 + (s.size - 75)) s.size)] 9 ∧ Only w.heap.size w4 w' := by
    have := off_any s w.heap.size 43 (s.size - 75) w4 T4.hd (by omega) hs
    rw [eP, show ((s.size - 75 : Nat) : Int) = ((s.size - 43 : Nat) : Int) - 32 by omega] at this
    exact this
  clear eP
  go_wp2_with fail
  refine HL.mono ?_
  rintro e w5 ⟨rfl, h5, o5⟩
  have T5 := T4.next h5 o5
  clear T4 h5 o5 HL c4
  have hA : (s.extract 4 7).size = 3 := by rw [ByteArray.size_extract]; omega
  have gA : ∀ k, k < 3 → (bs (s.extract 4 7)).getD k 0 = (bs s).getD (4 + k) 0 := by
    intro k hk
    rw [bs_extract, List.getD_eq_getElem?_getD, List.getD_eq_getElem?_getD, List.getElem?_drop, List.getElem?_take_of_lt (by omega)]
  have g0 := gA 0 (by omega)
  have g1 := gA 1 (by omega)
  have g2 := gA 2 (by omega)
  have hD : s.extract 11 43 = fD s := rfl
  clear gA
  go_wp2_with fail
  generalize s.extract 4 7 = A at *
  refine Tl.wp_tail_lit (by kernel_rfl) 13 [21, 22, 23, 24, 25, 26, 27, 28, 29, 30, 31, 32, 33] 34 rfl (by kernel_rfl) (TkW s (43 + (s.size - 75)) w) (fun d v _ => v = tv A s d) (fun _ _ _ _ h _ => h) ⟨T5.hd.drew, T5.hr.drew, T5.bl.drew⟩
    ⟨fun a' W' hC hF => ?_, fun a' W' hC hF => ?_, fun a' W' hC hF => ?_, fun a' W' hC hF => ?_, fun a' W' hC hF => ?_, fun a' W' hC hF => ?_, fun a' W' hC hF => ?_, fun a' W' hC hF => ?_, fun a' W' hC hF => ?_, fun a' W' hC hF => ?_, fun a' W' hC hF => ?_, fun a' W' hC hF => ?_, fun a' W' hC hF => ?_, trivial⟩ ?_
  · exact Tl.st_v 21 _ rfl rfl hC rfl (rn_move rfl ((hF 4 (by decide +kernel)).2 (by decide)))
  · exact Tl.st_v 22 _ rfl rfl hC rfl (rn_index9 (k := 0) rfl ((hF 21 (by decide +kernel)).1 (by decide)) rfl (by omega) g0)
  · exact Tl.st_v 23 _ rfl rfl hC rfl (rn_c53 rfl ((hF 22 (by decide +kernel)).1 (by decide)) (fB_byte s 4).1 (fB_byte s 4).2)
  · exact Tl.st_v 24 _ rfl rfl hC rfl (rn_move rfl ((hF 4 (by decide +kernel)).2 (by decide)))
  · exact Tl.st_v 25 _ rfl rfl hC rfl (rn_index9 (k := 1) rfl ((hF 24 (by decide +kernel)).1 (by decide)) rfl (by omega) g1)
  · exact Tl.st_v 26 _ rfl rfl hC rfl (rn_c53 rfl ((hF 25 (by decide +kernel)).1 (by decide)) (fB_byte s 5).1 (fB_byte s 5).2)
  · exact Tl.st_v 27 _ rfl rfl hC rfl (rn_build23 rfl ((hF 23 (by decide +kernel)).1 (by decide)) ((hF 26 (by decide +kernel)).1 (by decide)))
  · exact Tl.st_v 28 _ rfl rfl hC rfl (rn_move rfl ((hF 5 (by decide +kernel)).2 (by decide)))
  · exact Tl.st_v 29 _ rfl rfl hC rfl (rn_move rfl ((hF 4 (by decide +kernel)).2 (by decide)))
  · exact Tl.st_v 30 _ rfl rfl hC rfl (rn_index9 (k := 2) rfl ((hF 29 (by decide +kernel)).1 (by decide)) rfl (by omega) g2)
  · exact Tl.st_v 31 _ rfl rfl hC rfl (rn_c53 rfl ((hF 30 (by decide +kernel)).1 (by decide)) (fB_byte s 6).1 (fB_byte s 6).2)
  · exact Tl.st_v 32 _ rfl rfl hC rfl (rn_move rfl ((hF 6 (by decide +kernel)).2 (by decide)))
  · exact Tl.st_v 33 _ rfl rfl hC rfl (rn_build25 rfl ((hF 27 (by decide +kernel)).1 (by decide)) ((hF 28 (by decide +kernel)).1 (by decide)) ((hF 31 (by decide +kernel)).1 (by decide)) ((hF 32 (by decide +kernel)).1 (by decide)))
  · intro v W' hC hv
    obtain ⟨c0, c1, c2, c3, c4, f0, f1, f2, f3, f4⟩ := noS_cells hC.hr
    have v33 : v 33 = .agg (shc (fB s 4) (fB s 5) (fD s) (fB s 6) (fP s)) := hv 33 (by decide)
    simp only [Tl.fill, v33, shc]
    go_wp2_with fail
    exact ret_one25 Tryd.results21 rfl rfl (shc_put hC.hr _ _ _ _ _) ⟨rfl, below_put5 hC.bl (by omega) _ _ _ _ _⟩
end Go.Proofs.YtnhakbpalfcmfaaDoor
