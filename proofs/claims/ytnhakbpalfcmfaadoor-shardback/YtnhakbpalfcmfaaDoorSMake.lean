/- The contract of Make. -/
import Derived.Test.YtnhakbpalfcmfaaDoorSWrit
import Derived.Laws.ResultCell
import Derived.Test.YtnhakbpalfcmfaaDoorSOps
namespace Go.Proofs.YtnhakbpalfcmfaaDoor
open Go.RowKit
/-- whether a shard may be, but for how long it is -/
def okS (K N : Int) (d : ByteArray) (i : Int) : Bool := okC K N && decide (d.size = 32) && (decide (0 ≤ i) && decide (i < N))
/-- Make's error -/
def mkE (K N : Int) (d : ByteArray) (i : Int) (p : ByteArray) : Int := if okS K N d i then (if p.size ≤ 65461 then 0 else 40) else 1
/-- Make's name -/
def mkN (K N : Int) (d : ByteArray) (i : Int) (p : ByteArray) : ByteArray := if mkE K N d i p = 0 then ofBs (nm (bs d) i) else ⟨#[]⟩
/-- Make's bytes -/
def mkD (K N : Int) (d : ByteArray) (i : Int) (p : ByteArray) : ByteArray := if mkE K N d i p = 0 then ofBs (dat K.toNat N.toNat i.toNat (bs d) (bs p)) else ⟨#[]⟩
def obv (a b : ByteArray) : Value := .agg #[.string a, .string b]
/-- an object and an error, as they are told -/
def mkV (K N : Int) (d : ByteArray) (i : Int) (p : ByteArray) : Value := .tuple #[obv (mkN K N d i p) (mkD K N d i p), .int .i64 (mkE K N d i p)]
theorem two_new (w : World) (a b : Array Value) (s t : TypeId) : Has ((w.alloc (.cells a s)).alloc (.cells b t)) w.heap.size a s ∧ Has ((w.alloc (.cells a s)).alloc (.cells b t)) (w.heap.size + 1) b t ∧ Below w.heap.size w ((w.alloc (.cells a s)).alloc (.cells b t)) ∧ ((w.alloc (.cells a s)).alloc (.cells b t)).heap.size = w.heap.size + 2 :=
  ⟨(Has.new _ _ _ _ rfl).alloc _, Has.new _ _ _ _ (by simp), belowAlloc (belowAlloc (Below.refl _ _) _) _, by simp⟩
/-- the memory of Make: the shard, and the object that is told -/
structure MkW (c o : Array Value) (w W : World) : Prop where
  hs : Has W w.heap.size c 25
  ho : Has W (w.heap.size + 1) o 27
  bl : Below w.heap.size w W
theorem MkW.start (w : World) (c o : Array Value) {W : World} (h : Below ((w.alloc (.cells c 25)).alloc (.cells o 27)).heap.size ((w.alloc (.cells c 25)).alloc (.cells o 27)) W) : MkW c o w W := by
  obtain ⟨h1, h2, h3, h4⟩ := two_new w c o 25 27
  exact ⟨h1.below h (by omega), h2.below h (by omega), belowCall h3 h⟩
theorem MkW.next {c o : Array Value} {w W W' : World} (h : MkW c o w W) (hb : Below W.heap.size W W') : MkW c o w W' :=
  ⟨h.hs.below hb h.hs.lt, h.ho.below hb h.ho.lt, belowCall h.bl hb⟩
def noO : Array Value := #[.string ⟨#[]⟩, .string ⟨#[]⟩]
theorem obj_cells {W : World} {b : Nat} {x y : ByteArray} {t : TypeId} (h : Has W b #[.string x, .string y] t) :
    W.cell? ⟨b, 0, none⟩ = some (.string x) ∧ W.cell? ⟨b, 1, none⟩ = some (.string y) ∧ W.frozen? ⟨b, 0, none⟩ = false ∧ W.frozen? ⟨b, 1, none⟩ = false :=
  ⟨h.cell 0, h.cell 1, h.frozen 0, h.frozen 1⟩
set_option maxRecDepth 20000 in
theorem obj_put {W : World} {b : Nat} {x y : ByteArray} {t : TypeId} (h : Has W b #[.string x, .string y] t) (x' y' : ByteArray) :
    Has ((W.setCell ⟨b, 0, none⟩ (.string x')).setCell ⟨b, 1, none⟩ (.string y')) b #[.string x', .string y'] t := by
  have := (h.set 0 (.string x')).set 1 (.string y')
  simpa using this
theorem below_put {w W : World} {b : Nat} (h : Below w.heap.size w W) (hb : w.heap.size ≤ b) (x' y' : Value) : Below w.heap.size w ((W.setCell ⟨b, 0, none⟩ x').setCell ⟨b, 1, none⟩ y') :=
  belowSet (belowSet h b 0 x' hb) b 1 y' hb
set_option maxRecDepth 20000 in
/-- a result that lies in memory, and an error beside it -/
theorem ret_cell {fn : Func} {a : Act} {W : World} {b : Nat} {cs : List Value} {ty : TypeId} {p u : Tmp} {v : Value} {d : TypeDesc} {Q : Ending → World → Prop}
    (hf : fn.results = #[.cell p ty, .tmp u]) (hp : a.tmps.getD p undef = .pointer (some ⟨b, 0, none⟩)) (hv : a.tmps.getD u undef = v) (hd : a.defers = []) (hc : W.rangeAt b 0 cs)
    (hu : Tryd.prog.underlying ty = some d) (hr : d.isRow = true) (hi : (Tryd.prog.info? ty).map (·.size) = some cs.length) (hQ : Q (.returned (.tuple #[.agg cs.toArray, v])) W) : bodyPost Tryd.prog fn Q Exit.ret a W := by
  refine bodyPost_ret (v := .tuple #[.agg cs.toArray, v]) ?_ hd hQ
  rw [results_cell_tmp hf, hp, hv]
  have hld := run_loadVar_mid (P := Tryd.prog) W b 0 ty cs d hc hu hr hi
  show ((Sem.run Tryd.prog (loadVar ty ⟨b, 0, none⟩) W).andThen _) = _
  rw [hld]
  rfl
theorem info27 : (Tryd.prog.info? 27).map (·.size) = some 2 := by kernel_rfl
theorem ret_obj {fn : Func} {a : Act} {W : World} {b : Nat} {x y : ByteArray} {p u : Tmp} {v : Value} {Q : Ending → World → Prop}
    (hf : fn.results = #[.cell p 27, .tmp u]) (hp : a.tmps.getD p undef = .pointer (some ⟨b, 0, none⟩)) (hv : a.tmps.getD u undef = v) (hd : a.defers = []) (hc : Has W b #[.string x, .string y] 27)
    (hQ : Q (.returned (.tuple #[obv x y, v])) W) : bodyPost Tryd.prog fn Q Exit.ret a W :=
  ret_cell (cs := [.string x, .string y]) hf hp hv hd hc.range Tryd.underlying27 rfl info27 hQ
set_option maxRecDepth 20000 in
theorem make_arg (K N : Int) (d : ByteArray) (i : Int) (p : ByteArray) (h : okS K N d i = false) (w : World) :
    Calls Tryd.prog 7 #[.agg (shc K N d i p)] w fun e w' => e = .returned (.tuple #[obv ⟨#[]⟩ ⟨#[]⟩, .int .i64 1]) ∧ Below w.heap.size w w' := by
  unfold shc
  go_enter Tryd.func7, Tryd.ntmps7
  go_wp2_with fail
  refine (code_any K N _).mono ?_
  rintro e w1 ⟨rfl, b1⟩
  have M1 : MkW (shc K N d i p) noO w w1 := MkW.start w _ _ b1
  clear b1
  obtain ⟨c0, c1, c2, c3, c4⟩ := shc_cells M1.hs
  obtain ⟨r0, r1, f0, f1⟩ := obj_cells M1.ho
  by_cases h1 : okC K N = true
  · have h2 : Hid ((decide (d.size = 32) && (decide (0 ≤ i) && decide (i < N))) = false) := by
      unfold okS at h; rw [h1, Bool.true_and] at h; exact h
    rw [h1]
    by_cases hd : d.size = 32
    · have q1 : ((d.size : Int) != 32) = false := by rw [hd]; rfl
      go_wp2_with fail
      refine (may_any i N w1).mono ?_
      rintro e w2 ⟨rfl, rfl⟩
      have q2 : (decide (0 ≤ i) && decide (i < N)) = false := by have := h2.out; rw [hd] at this; simpa using this
      rw [q2]
      go_wp2_with fail
      exact ret_obj Tryd.results7 rfl rfl rfl (obj_put M1.ho _ _) ⟨rfl, below_put M1.bl (by omega) _ _⟩
    · have q1 : ((d.size : Int) != 32) = true := by rw [bne_iff_ne]; omega
      go_wp2_with fail
      exact ret_obj Tryd.results7 rfl rfl rfl (obj_put M1.ho _ _) ⟨rfl, below_put M1.bl (by omega) _ _⟩
  · have h1 : okC K N = false := by simpa using h1
    rw [h1]
    go_wp2_with fail
    exact ret_obj Tryd.results7 rfl rfl rfl (obj_put M1.ho _ _) ⟨rfl, below_put M1.bl (by omega) _ _⟩
set_option maxRecDepth 20000 in
theorem make_big (K N : Int) (d : ByteArray) (i : Int) (p : ByteArray) (h : okS K N d i = true) (hp : 65461 < p.size) (w : World) :
    Calls Tryd.prog 7 #[.agg (shc K N d i p)] w fun e w' => e = .returned (.tuple #[obv ⟨#[]⟩ ⟨#[]⟩, .int .i64 40]) ∧ Below w.heap.size w w' := by
  unfold okS at h
  simp only [Bool.and_eq_true, decide_eq_true_eq] at h
  obtain ⟨⟨h1, hd⟩, h2, h3⟩ := h
  have q0 : (65461 : Int) < (p.size : Int) := by omega
  unfold shc
  go_enter Tryd.func7, Tryd.ntmps7
  go_wp2_with fail
  refine (code_any K N _).mono ?_
  rintro e w1 ⟨rfl, b1⟩
  have M1 : MkW (shc K N d i p) noO w w1 := MkW.start w _ _ b1
  clear b1
  obtain ⟨c0, c1, c2, c3, c4⟩ := shc_cells M1.hs
  obtain ⟨r0, r1, f0, f1⟩ := obj_cells M1.ho
  rw [h1]
  have q1 : ((d.size : Int) != 32) = false := by rw [hd]; rfl
  go_wp2_with fail
  refine (may_any i N w1).mono ?_
  rintro e w2 ⟨rfl, rfl⟩
  have q2 : (decide (0 ≤ i) && decide (i < N)) = true := by simp [h2, h3]
  rw [q2]
  clear h1 h2 h3 q2
  go_wp2_with fail
  exact ret_obj Tryd.results7 rfl rfl rfl (obj_put M1.ho _ _) ⟨rfl, below_put M1.bl (by omega) _ _⟩
/-- what the slots of Make's last statement hold -/
def mv (n : Nat) (K N : Int) (d : ByteArray) (i : Int) (p X Y : ByteArray) : Nat → Value
  | 29 => .pointer (some ⟨n, 2, none⟩)
  | 30 => .string d
  | 31 => .pointer (some ⟨n, 3, none⟩)
  | 32 => .int .i64 i
  | 33 => .string X
  | 34 => .agg (shc K N d i p)
  | 35 => .string Y
  | _ => obv X Y
set_option maxRecDepth 20000 in
theorem make_ok (K N : Int) (d : ByteArray) (i : Int) (p : ByteArray) (h : okS K N d i = true) (hp : p.size ≤ 65461) (w : World) (hl : Lay w) :
    Calls Tryd.prog 7 #[.agg (shc K N d i p)] w fun e w' => e = .returned (.tuple #[obv (ofBs (nm (bs d) i)) (ofBs (dat K.toNat N.toNat i.toNat (bs d) (bs p))), .int .i64 0]) ∧ Below w.heap.size w w' := by
  unfold okS at h
  simp only [Bool.and_eq_true, decide_eq_true_eq] at h
  obtain ⟨⟨h1, hd⟩, h2, h3⟩ := h
  have h1' := h1
  simp only [okC, Bool.and_eq_true, decide_eq_true_eq] at h1'
  obtain ⟨⟨h4, h5⟩, h6⟩ := h1'
  have q0 : ¬ (65461 : Int) < (p.size : Int) := by omega
  have HN : Hid (∀ w, Lay w → Calls Tryd.prog 13 #[.string d, .int .i64 i] w fun e w' => e = .returned (.string (ofBs (nm (bs d) i))) ∧ Below w.heap.size w w') := fun w hl => name_any d i (by omega) (by omega) (by omega) w hl
  have HW : Hid (∀ w, Lay w → Calls Tryd.prog 19 #[.agg (shc K N d i p)] w fun e w' => e = .returned (.string (ofBs (dat K.toNat N.toNat i.toNat (bs d) (bs p)))) ∧ Below w.heap.size w w') := by
    intro w hl
    have := written_any K.toNat N.toNat i.toNat d p (by omega) (by omega) (by omega) (by omega) (by omega) w hl
    rw [Int.toNat_of_nonneg (by omega), Int.toNat_of_nonneg (by omega), Int.toNat_of_nonneg h2] at this
    exact this
  generalize ofBs (nm (bs d) i) = X at *
  generalize ofBs (dat K.toNat N.toNat i.toNat (bs d) (bs p)) = Y at *
  unfold shc
  go_enter Tryd.func7, Tryd.ntmps7
  go_wp2_with fail
  refine (code_any K N _).mono ?_
  rintro e w1 ⟨rfl, b1⟩
  have M1 : MkW (shc K N d i p) noO w w1 := MkW.start w _ _ b1
  clear b1
  obtain ⟨c0, c1, c2, c3, c4⟩ := shc_cells M1.hs
  rw [h1]
  have q1 : ((d.size : Int) != 32) = false := by rw [hd]; rfl
  go_wp2_with fail
  refine (may_any i N w1).mono ?_
  rintro e w2 ⟨rfl, rfl⟩
  have q2 : (decide (0 ≤ i) && decide (i < N)) = true := by simp [h2, h3]
  rw [q2]
  clear h1 h2 h3 q2 h4 h5 h6
  have l2 := hl.below M1.bl
  go_wp2_with fail
  refine Tl.wp_tail_lit (by kernel_rfl) 8 [29, 30, 31, 32, 33, 34, 35, 36] 37 rfl (by kernel_rfl) (MkW (shc K N d i p) noO w) (fun s v _ => v = mv w.heap.size K N d i p X Y s) (fun _ _ _ _ h _ => h) ⟨M1.hs.drew, M1.ho.drew, M1.bl.drew⟩
    ⟨fun a' W' hC hF => ?_, fun a' W' hC hF => ?_, fun a' W' hC hF => ?_, fun a' W' hC hF => ?_, fun a' W' hC hF => ?_, fun a' W' hC hF => ?_, fun a' W' hC hF => ?_, fun a' W' hC hF => ?_, trivial⟩ ?_
  · exact Tl.st_v 29 _ rfl rfl hC rfl (rn_f25_1 rfl ((hF 1 (by decide +kernel)).2 (by decide)))
  · exact Tl.st_v 30 _ rfl rfl hC rfl (rn_load9 rfl ((hF 29 (by decide +kernel)).1 (by decide)) (shc_cells hC.hs).2.2.1)
  · exact Tl.st_v 31 _ rfl rfl hC rfl (rn_f25_2 rfl ((hF 1 (by decide +kernel)).2 (by decide)))
  · exact Tl.st_v 32 _ rfl rfl hC rfl (rn_load3 rfl ((hF 31 (by decide +kernel)).1 (by decide)) (shc_cells hC.hs).2.2.2.1)
  · exact Tl.st_call 33 13 _ rfl (Tl.wanted_none rfl) (rn_call2 rfl rfl ((hF 30 (by decide +kernel)).1 (by decide)) ((hF 32 (by decide +kernel)).1 (by decide)) (enter13 _)) ((HN.out W' (hl.below hC.bl)).mono fun e w'' h => ⟨_, h.1, hC.next h.2, h.2, rfl⟩)
  · exact Tl.st_v 34 _ rfl rfl hC rfl (rn_load25 rfl ((hF 1 (by decide +kernel)).2 (by decide)) hC.hs)
  · exact Tl.st_call 35 19 _ rfl (Tl.wanted_none rfl) (rn_call1 rfl rfl ((hF 34 (by decide +kernel)).1 (by decide)) (enter19 _)) ((HW.out W' (hl.below hC.bl)).mono fun e w'' h => ⟨_, h.1, hC.next h.2, h.2, rfl⟩)
  · exact Tl.st_v 36 _ rfl rfl hC rfl (rn_build27 rfl ((hF 33 (by decide +kernel)).1 (by decide)) ((hF 35 (by decide +kernel)).1 (by decide)))
  · intro v W' hC hv
    obtain ⟨r0, r1, f0, f1⟩ := obj_cells hC.ho
    have v36 : v 36 = obv X Y := hv 36 (by decide)
    simp only [Tl.fill, v36, obv]
    go_wp2_with fail
    exact ret_obj Tryd.results7 rfl rfl rfl (obj_put hC.ho _ _) ⟨rfl, below_put hC.bl (by omega) _ _⟩
/-- MAKE. -/
theorem make_any (K N : Int) (d : ByteArray) (i : Int) (p : ByteArray) (w : World) (hl : Lay w) :
    Calls Tryd.prog 7 #[.agg (shc K N d i p)] w fun e w' => e = .returned (mkV K N d i p) ∧ Below w.heap.size w w' := by
  unfold mkV mkN mkD mkE
  by_cases h : okS K N d i = true
  · by_cases hp : p.size ≤ 65461
    · simp only [h, hp, if_true]
      exact make_ok K N d i p h hp w hl
    · simp only [h, hp, if_true, if_false]
      exact make_big K N d i p h (by omega) w
  · have h' : okS K N d i = false := by simpa using h
    simp only [h', Bool.false_eq_true, if_false]
    exact make_arg K N d i p h' w
end Go.Proofs.YtnhakbpalfcmfaaDoor
