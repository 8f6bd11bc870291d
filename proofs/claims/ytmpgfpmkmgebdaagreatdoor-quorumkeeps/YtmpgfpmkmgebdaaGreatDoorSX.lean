/- The document's Read of a shard, out of shard's seat. -/
import Derived.Test.YtmpgfpmkmgebdaaGreatDoorFRootsT
import Derived.Test.YtmpgfpmkmgebdaaGreatDoorFSOps
import Derived.Test.YtmpgfpmkmgebdaaGreatDoorFSWrit
import Derived.Test.YtmpgfpmkmgebdaaGreatDoorFSMix
import Derived.Test.YtmpgfpmkmgebdaaGreatDoorFChange
namespace Go.Proofs.YtmpgfpmkmgebdaaGreatDoor.S
open Go.RowKit
open F
/- Hex -/
section
open Go.RowKit
namespace Sha
def hexChar (n : Nat) : Nat := if n < 10 then 48 + n else 87 + n
def hex (l : List Nat) : List Nat := l.flatMap fun x => [hexChar (x / 16), hexChar (x % 16)]
end Sha
theorem bs_take_succ (s : ByteArray) (k : Nat) (h : k < s.size) : (bs s).take (k + 1) = (bs s).take k ++ [s[k].toNat] := by
  rw [List.take_succ_eq_append_getElem (by rw [bs_length]; exact h)]
  congr 1
  simp [bs]
  rfl
theorem hex_snoc (l : List Nat) (x : Nat) : Sha.hex (l ++ [x]) = Sha.hex l ++ [Sha.hexChar (x / 16)] ++ [Sha.hexChar (x % 16)] := by simp [Sha.hex]
theorem hexChar_lt (n : Nat) (h : n < 16) : Sha.hexChar n < 256 := by unfold Sha.hexChar; split <;> omega
theorem hex_lt (l : List Nat) (h : ∀ x ∈ l, x < 256) : ∀ x ∈ Sha.hex l, x < 256 := by
  intro x hx
  simp only [Sha.hex, List.mem_flatMap, List.mem_cons, List.not_mem_nil, or_false] at hx
  obtain ⟨y, hy, hx⟩ := hx
  have := h y hy
  rcases hx with rfl | rfl
  · exact hexChar_lt _ (by omega)
  · exact hexChar_lt _ (by omega)
theorem hex_length (l : List Nat) : (Sha.hex l).length = 2 * l.length := by
  induction l with
  | nil => rfl
  | cons x l ih => simp [Sha.hex] at ih ⊢; omega
end
/- Unhex -/
section
open Go.RowKit
namespace Sha
/-- the number of a hex's digit; 16: it is none -/
def num (c : Nat) : Nat := if 48 ≤ c ∧ c ≤ 57 then c - 48 else if 97 ≤ c ∧ c ≤ 102 then c - 87 else 16
def unhexTo (l : List Nat) (k : Nat) : List Nat := (List.range k).map fun i => num (l.getD (2 * i) 0) * 16 + num (l.getD (2 * i + 1) 0)
def unhex (l : List Nat) : List Nat := unhexTo l (l.length / 2)
end Sha
end
/- Back -/
section
namespace Sha
theorem num_hexChar (n : Nat) (h : n < 16) : num (hexChar n) = n := by
  unfold num hexChar
  by_cases h1 : n < 10
  · rw [if_pos h1, if_pos (by omega)]; omega
  · rw [if_neg h1, if_neg (by omega), if_pos (by omega)]; omega
theorem hex_cons (x : Nat) (l : List Nat) : hex (x :: l) = hexChar (x / 16) :: hexChar (x % 16) :: hex l := by simp [hex]
theorem hex_getD : ∀ (l : List Nat) (i : Nat), i < l.length → (hex l).getD (2 * i) 0 = hexChar (l.getD i 0 / 16) ∧ (hex l).getD (2 * i + 1) 0 = hexChar (l.getD i 0 % 16)
  | [], i, h => by simp at h
  | x :: l, 0, _ => by rw [hex_cons]; exact ⟨rfl, rfl⟩
  | x :: l, i + 1, h => by
    have ih := hex_getD l i (by simpa using h)
    rw [hex_cons, show 2 * (i + 1) = 2 * i + 1 + 1 by omega]
    exact ih
theorem getD_ext {a b : List Nat} (hl : a.length = b.length) (h : ∀ i, i < a.length → a.getD i 0 = b.getD i 0) : a = b := by
  apply List.ext_getElem hl
  intro i h1 h2
  have := h i h1
  rw [List.getD_eq_getElem?_getD, List.getD_eq_getElem?_getD, List.getElem?_eq_getElem h1, List.getElem?_eq_getElem h2] at this
  exact this
theorem unhexTo_length (l : List Nat) (k : Nat) : (unhexTo l k).length = k := by simp [unhexTo]
theorem unhexTo_getD (l : List Nat) (k i : Nat) (h : i < k) : (unhexTo l k).getD i 0 = num (l.getD (2 * i) 0) * 16 + num (l.getD (2 * i + 1) 0) := by
  rw [List.getD_eq_getElem?_getD, List.getElem?_eq_getElem (by rw [unhexTo_length]; exact h)]
  simp [unhexTo]
theorem unhex_hex (l : List Nat) (hl : ∀ x ∈ l, x < 256) : unhex (hex l) = l := by
  unfold unhex
  rw [hex_length, show 2 * l.length / 2 = l.length by omega]
  apply getD_ext (unhexTo_length _ _)
  intro i hi
  rw [unhexTo_length] at hi
  have hb := getD_lt l 256 (by decide) hl i
  have g := hex_getD l i hi
  rw [unhexTo_getD _ _ _ hi, g.1, g.2, num_hexChar _ (by omega), num_hexChar _ (by omega)]
  omega
end Sha
end
/- SName -/
section
open Go.RowKit
theorem dec_lt (n : Int) : ∀ x ∈ dec n, x < 256 := by
  intro x hx
  simp only [dec, List.mem_map] at hx
  obtain ⟨b, _, rfl⟩ := hx
  exact b.toNat_lt
theorem dec_length (n : Int) (h0 : -9223372036854775808 ≤ n) (h1 : n ≤ 9223372036854775807) : (dec n).length ≤ 21 := by
  unfold dec; rw [List.length_map]; exact Lib.itoa_length_le n h0 h1
/-- an object's name -/
def nm (d : List Nat) (i : Int) : List Nat := Sha.hex d ++ [46] ++ dec i
set_option maxRecDepth 20000 in
theorem refCode_any (K N : Int) (w : World) : Calls Tryz.prog 123 #[.agg #[.int .i64 K, .int .i64 N]] w fun e w' => e = .returned (.bool (okC K N)) ∧ Below w.heap.size w w' := by
  go_enter Tryz.func123, Tryz.ntmps123
  go_wp2
  all_goals
    go_ret
    refine ⟨?_, (Below.refl _ _).alloc (Nat.le_refl _) _⟩
    simp_all [okC] <;> omega
end
/- SWrit -/
section
open Go.RowKit
/-- a shard's bytes but for the last digest -/
def pre (K N i : Nat) (d p : List Nat) : List Nat := [115, 104, 100, 49] ++ [K, N, i] ++ be4 p.length ++ d ++ p
/-- a shard's bytes -/
def dat (K N i : Nat) (d p : List Nat) : List Nat := pre K N i d p ++ Sha.digest (pre K N i d p)
/-- a shard, as cells -/
def shc (K N : Int) (d : ByteArray) (i : Int) (p : ByteArray) : Array Value := #[.int .i64 K, .int .i64 N, .string d, .int .i64 i, .string p]
/-- a builder of which String was asked -/
def HoldsF (b : Nat) (l : List Nat) (w : World) : Prop := Lib.IsBuilderF 66 5 b b (U8s l).toList w
theorem HoldsF.lt {b : Nat} {l : List Nat} {w : World} (h : HoldsF b l w) : b < w.heap.size := h.elim (fun x => x.lt) (fun x => x.lt)
theorem HoldsF.below {b : Nat} {l : List Nat} {w W : World} (h : HoldsF b l w) (hb : Below w.heap.size w W) : HoldsF b l W := by
  have key : ∀ {q : Value}, Lib.BuilderAtF 66 5 b b q (U8s l).toList w → Lib.BuilderAtF 66 5 b b q (U8s l).toList W := by
    intro q hq
    have hlt := hq.lt
    obtain ⟨h1, v, h2, h3, h4⟩ := hq
    refine ⟨h1, v, by rw [hb.block b hlt]; exact h2, h3.kept (row := none) ⟨hb.os, hb.tape, hb.output, hb.size, fun k hk _ => hb.block k hk⟩ ?_, h4⟩
    cases v.ownBlock with
    | none => exact .inl rfl
    | some k => exact .inr (by simp)
  exact h.elim (fun x => .inl (key x)) (fun x => .inr (key x))
/-- the memory of written: the shard, and a builder behind it -/
structure WrW (c : Array Value) (l : List Nat) (w W : World) : Prop where
  hb : Holds (w.heap.size + 1) l W
  hs : Has W w.heap.size c 25
  bl : Below w.heap.size w W
theorem WrW.next {c : Array Value} {l l' : List Nat} {w W W' : World} (h : WrW c l w W) (h' : Holds (w.heap.size + 1) l' W') (hb : Below (w.heap.size + 1) W W') : WrW c l' w W' :=
  ⟨h', h.hs.below hb (Nat.lt_succ_self _), h.bl.trans (hb.mono (Nat.le_succ _))⟩
theorem shc_cells {W : World} {b : Nat} {K N : Int} {d : ByteArray} {i : Int} {p : ByteArray} {t : TypeId} (h : Has W b (shc K N d i p) t) :
    W.cell? ⟨b, 0, none⟩ = some (.int .i64 K) ∧ W.cell? ⟨b, 1, none⟩ = some (.int .i64 N) ∧ W.cell? ⟨b, 2, none⟩ = some (.string d) ∧ W.cell? ⟨b, 3, none⟩ = some (.int .i64 i) ∧ W.cell? ⟨b, 4, none⟩ = some (.string p) :=
  ⟨h.cell 0, h.cell 1, h.cell 2, h.cell 3, h.cell 4⟩
end
/- SOps -/
section
open Go.RowKit
namespace Tl
end Tl
open Go.RowKit
variable {ev : Operand → Value} {o : Oper} {w : World} {x y : Operand}
theorem rn_f27_1 {g : Nat} (ho : o.op = .fieldAddr 131 x 1) (hx : ev x = .pointer (some ⟨g, 0, none⟩)) : (execOp ev o).run Tryz.prog w = .ok (.value (.pointer (some ⟨g, 1, none⟩))) w := by
  simp [execOp, ho, hx, go_sem]
theorem rn_build23 {K N : Int} (ho : o.op = .build 26 #[(0, x), (1, y)]) (hx : ev x = .int .i64 K) (hy : ev y = .int .i64 N) : (execOp ev o).run Tryz.prog w = .ok (.value (.agg #[.int .i64 K, .int .i64 N])) w := by
  simp [execOp, ho, hx, hy, go_sem]
theorem rn_build33 {K N i : Int} {d p : ByteArray} {z u : Operand} (ho : o.op = .build 155 #[(0, x), (1, y), (2, z), (3, u)]) (hx : ev x = .agg #[.int .i64 K, .int .i64 N]) (hy : ev y = .string d) (hz : ev z = .int .i64 i) (hu : ev u = .string p) : (execOp ev o).run Tryz.prog w = .ok (.value (.agg (shc K N d i p))) w := by
  simp [execOp, ho, hx, hy, hz, hu, go_sem, shc]
theorem rn_alloc33 (ho : o.op = .alloc 155) : (execOp ev o).run Tryz.prog w = .ok (.value (.pointer (some ⟨w.heap.size, 0, none⟩))) (w.alloc (.cells (shc 0 0 ⟨#[]⟩ 0 ⟨#[]⟩) 155)) := by
  simp [execOp, ho, go_sem, shc]
end
/- SMake -/
section
open Go.RowKit
/-- whether a shard may be, but for how long it is -/
def okS (K N : Int) (d : ByteArray) (i : Int) : Bool := okC K N && decide (d.size = 32) && (decide (0 ≤ i) && decide (i < N))
/-- Make's error -/
def mkE (K N : Int) (d : ByteArray) (i : Int) (p : ByteArray) : Int := if okS K N d i then (if p.size ≤ 65461 then 0 else 40) else 1
/-- Make's name -/
def mkN (K N : Int) (d : ByteArray) (i : Int) (p : ByteArray) : ByteArray := if mkE K N d i p = 0 then ofBs (nm (bs d) i) else ⟨#[]⟩
/-- Make's bytes -/
def mkD (K N : Int) (d : ByteArray) (i : Int) (p : ByteArray) : ByteArray := if mkE K N d i p = 0 then ofBs (dat K.toNat N.toNat i.toNat (bs d) (bs p)) else ⟨#[]⟩
def obv (a b : ByteArray) : Value := .agg #[.string a, .string b]
/-- an object and an error, as they are told -/
def mkV (K N : Int) (d : ByteArray) (i : Int) (p : ByteArray) : Value := .tuple #[obv (mkN K N d i p) (mkD K N d i p), .int .i64 (mkE K N d i p)]
/-- the memory of Make: the shard, and the object that is told -/
structure MkW (c o : Array Value) (w W : World) : Prop where
  hs : Has W w.heap.size c 25
  ho : Has W (w.heap.size + 1) o 131
  bl : Below w.heap.size w W
theorem MkW.start (w : World) (c o : Array Value) {W : World} (h : Below ((w.alloc (.cells c 25)).alloc (.cells o 131)).heap.size ((w.alloc (.cells c 25)).alloc (.cells o 131)) W) : MkW c o w W := by
  obtain ⟨h1, h2, h3, h4⟩ := two_new w c o 25 131
  exact ⟨h1.below h (by omega), h2.below h (by omega), belowCall h3 h⟩
theorem MkW.next {c o : Array Value} {w W W' : World} (h : MkW c o w W) (hb : Below W.heap.size W W') : MkW c o w W' :=
  ⟨h.hs.below hb h.hs.lt, h.ho.below hb h.ho.lt, belowCall h.bl hb⟩
def noO : Array Value := #[.string ⟨#[]⟩, .string ⟨#[]⟩]
theorem obj_cells {W : World} {b : Nat} {x y : ByteArray} {t : TypeId} (h : Has W b #[.string x, .string y] t) :
    W.cell? ⟨b, 0, none⟩ = some (.string x) ∧ W.cell? ⟨b, 1, none⟩ = some (.string y) ∧ W.frozen? ⟨b, 0, none⟩ = false ∧ W.frozen? ⟨b, 1, none⟩ = false :=
  ⟨h.cell 0, h.cell 1, h.frozen 0, h.frozen 1⟩
set_option maxRecDepth 20000 in
theorem obj_put {W : World} {b : Nat} {x y : ByteArray} {t : TypeId} (h : Has W b #[.string x, .string y] t) (x' y' : ByteArray) :
    Has ((W.setCell ⟨b, 0, none⟩ (.string x')).setCell ⟨b, 1, none⟩ (.string y')) b #[.string x', .string y'] t := by
  have := (h.set 0 (.string x')).set 1 (.string y')
  simpa using this
theorem below_put {w W : World} {b : Nat} (h : Below w.heap.size w W) (hb : w.heap.size ≤ b) (x' y' : Value) : Below w.heap.size w ((W.setCell ⟨b, 0, none⟩ x').setCell ⟨b, 1, none⟩ y') :=
  belowSet (belowSet h b 0 x' hb) b 1 y' hb
theorem info27 : (Tryz.prog.info? 131).map (·.size) = some 2 := by kernel_rfl
theorem ret_obj {fn : Func} {a : Act} {W : World} {b : Nat} {x y : ByteArray} {p u : Tmp} {v : Value} {Q : Ending → World → Prop}
    (hf : fn.results = #[.cell p 131, .tmp u]) (hp : a.tmps.getD p undef = .pointer (some ⟨b, 0, none⟩)) (hv : a.tmps.getD u undef = v) (hd : a.defers = []) (hc : Has W b #[.string x, .string y] 131)
    (hQ : Q (.returned (.tuple #[obv x y, v])) W) : bodyPost Tryz.prog fn Q Exit.ret a W :=
  ret_cell (cs := [.string x, .string y]) hf hp hv hd hc.range Tryz.underlying131 rfl info27 hQ
end
/- SParse -/
section
open Go.RowKit
open Go.RowKit
/-- s is the name of the object of a shard of the digest d, of the number i -/
def IsN (s d : ByteArray) (i : Nat) : Prop := d.size = 32 ∧ i < 12 ∧ s = ofBs (nm (bs d) (i : Int))
theorem nm_lt (d : ByteArray) (i : Int) : ∀ x ∈ nm (bs d) i, x < 256 := by
  intro x hx
  simp only [nm, List.mem_append, List.mem_singleton] at hx
  rcases hx with (hx | rfl) | hx
  · exact hex_lt _ (bs_lt d) x hx
  · decide
  · exact dec_lt i x hx
end
/- STaken -/
section
open Go.RowKit
/-- the fields that data tell -/
def fB (s : ByteArray) (j : Nat) : Int := (((bs s).getD j 0 : Nat) : Int)
def fD (s : ByteArray) : ByteArray := s.extract 11 43
def fP (s : ByteArray) : ByteArray := s.extract 43 (s.size - 32)
theorem fB_byte (s : ByteArray) (j : Nat) : 0 ≤ fB s j ∧ fB s j < 256 := by
  unfold fB
  have := getD_lt (bs s) 256 (by decide) (bs_lt s) j
  omega
def noS : Array Value := shc 0 0 ⟨#[]⟩ 0 ⟨#[]⟩
structure TkW (s : ByteArray) (c : Nat) (w W : World) : Prop where
  hd : Has W w.heap.size #[.string (s.extract c s.size)] 9
  hr : Has W (w.heap.size + 1) noS 25
  bl : Below w.heap.size w W
theorem TkW.next {s : ByteArray} {c c' : Nat} {w W W' : World} (h : TkW s c w W) (h' : Has W' w.heap.size #[.string (s.extract c' s.size)] 9) (ho : Only w.heap.size W W') : TkW s c' w W' :=
  ⟨h', h.hr.only ho (by omega), h.bl.trans (ho.below (Nat.le_refl _) h.bl.size)⟩
theorem noS_cells {W : World} {b : Nat} {t : TypeId} (h : Has W b noS t) :
    W.cell? ⟨b, 0, none⟩ = some (.int .i64 0) ∧ W.cell? ⟨b, 1, none⟩ = some (.int .i64 0) ∧ W.cell? ⟨b, 2, none⟩ = some (.string ⟨#[]⟩) ∧ W.cell? ⟨b, 3, none⟩ = some (.int .i64 0) ∧ W.cell? ⟨b, 4, none⟩ = some (.string ⟨#[]⟩) ∧ W.frozen? ⟨b, 0, none⟩ = false ∧ W.frozen? ⟨b, 1, none⟩ = false ∧ W.frozen? ⟨b, 2, none⟩ = false ∧ W.frozen? ⟨b, 3, none⟩ = false ∧ W.frozen? ⟨b, 4, none⟩ = false :=
  ⟨h.cell 0, h.cell 1, h.cell 2, h.cell 3, h.cell 4, h.frozen 0, h.frozen 1, h.frozen 2, h.frozen 3, h.frozen 4⟩
theorem shc_put {W : World} {b : Nat} {K N i : Int} {d p : ByteArray} {t : TypeId} (h : Has W b (shc K N d i p) t) (K' N' i' : Int) (d' p' : ByteArray) :
    Has (((((W.setCell ⟨b, 0, none⟩ (.int .i64 K')).setCell ⟨b, 1, none⟩ (.int .i64 N')).setCell ⟨b, 2, none⟩ (.string d')).setCell ⟨b, 3, none⟩ (.int .i64 i')).setCell ⟨b, 4, none⟩ (.string p')) b (shc K' N' d' i' p') t := by
  have := ((((h.set 0 (.int .i64 K')).set 1 (.int .i64 N')).set 2 (.string d')).set 3 (.int .i64 i')).set 4 (.string p')
  simpa [shc] using this
theorem below_put5 {w W : World} {b : Nat} (h : Below w.heap.size w W) (hb : w.heap.size ≤ b) (v0 v1 v2 v3 v4 : Value) : Below w.heap.size w (((((W.setCell ⟨b, 0, none⟩ v0).setCell ⟨b, 1, none⟩ v1).setCell ⟨b, 2, none⟩ v2).setCell ⟨b, 3, none⟩ v3).setCell ⟨b, 4, none⟩ v4) :=
  belowSet (belowSet (belowSet (belowSet (belowSet h b 0 v0 hb) b 1 v1 hb) b 2 v2 hb) b 3 v3 hb) b 4 v4 hb
theorem info33 : (Tryz.prog.info? 155).map (·.size) = some 5 := by kernel_rfl
theorem ret_shard33 {fn : Func} {a : Act} {W : World} {b : Nat} {K N i : Int} {d q : ByteArray} {p u : Tmp} {v : Value} {Q : Ending → World → Prop}
    (hf : fn.results = #[.cell p 155, .tmp u]) (hp : a.tmps.getD p undef = .pointer (some ⟨b, 0, none⟩)) (hv : a.tmps.getD u undef = v) (hd : a.defers = []) (hc : Has W b (shc K N d i q) 155)
    (hQ : Q (.returned (.tuple #[.agg (shc K N d i q), v])) W) : bodyPost Tryz.prog fn Q Exit.ret a W :=
  ret_cell (cs := (shc K N d i q).toList) hf hp hv hd hc.range Tryz.underlying155 rfl info33 hQ
end
/- SRead -/
section
open Go.RowKit
/-- whether data of that name are a shard's -/
def rdOk (a s : ByteArray) : Bool := decide (75 ≤ s.size) && (decide (mkE (fB s 4) (fB s 5) (fD s) (fB s 6) (fP s) = 0) && (decide (mkN (fB s 4) (fB s 5) (fD s) (fB s 6) (fP s) = a) && decide (mkD (fB s 4) (fB s 5) (fD s) (fB s 6) (fP s) = s)))
/-- what Read tells -/
def rdV (a s : ByteArray) : Value := if rdOk a s then .tuple #[.agg (shc (fB s 4) (fB s 5) (fD s) (fB s 6) (fP s)), .int .i64 0] else .tuple #[.agg noS, .int .i64 4]
/-- the memory of Read: the object, and the shard that is told -/
structure RdW (a s : ByteArray) (w W : World) : Prop where
  ho : Has W w.heap.size #[.string a, .string s] 131
  hr : Has W (w.heap.size + 1) noS 25
  bl : Below w.heap.size w W
theorem RdW.start (w : World) (a s : ByteArray) {W : World} (h : Below ((w.alloc (.cells #[.string a, .string s] 131)).alloc (.cells noS 25)).heap.size ((w.alloc (.cells #[.string a, .string s] 131)).alloc (.cells noS 25)) W) : RdW a s w W := by
  obtain ⟨h1, h2, h3, h4⟩ := two_new w #[.string a, .string s] noS 131 25
  exact ⟨h1.below h (by omega), h2.below h (by omega), belowCall h3 h⟩
theorem RdW.next {a s : ByteArray} {w W W' : World} (h : RdW a s w W) (hb : Below W.heap.size W W') : RdW a s w W' :=
  ⟨h.ho.below hb h.ho.lt, h.hr.below hb h.hr.lt, belowCall h.bl hb⟩
end
/- Own -/
section
open Go.RowKit
theorem step_app {t e : TypeId} {z : Value} {bytes : Nat} (E : Elem t e z bytes) {ops : Array Oper} {o : Oper} {a : Act} {w : World} {K : Act → World → Prop} {Q : Exit → Act → World → Prop} {F : Prop} (hgd : o.guard = none) (s x : Operand)
    (ho : o.op = .call { callee := .builtin .append, args := #[s, x], argTypes := #[t, t] }) (base : Nat) (v : Value) (xs : List Value) (hs : a.eval s = v) (hown : Owns e base v xs w)
    (b c : Nat) (news : Array Value) (hx : a.eval x = .slice (some ⟨b, 0, none⟩) news.size c) (hnews : Has w b news e) (h1 : ∀ u ∈ news.toList, u.oneCell' = true) (hm : 0 < news.size) (h63 : xs.length + news.size ≤ 1000000000000) (hbase : base ≤ w.heap.size)
    (h : ∀ g cap w', Owns e base (.slice (some ⟨g, 0, none⟩) (xs.length + news.size) cap) (xs ++ news.toList) w' → w.grownBy w' v.ownBlock → (v.ownBlock = some g ∨ g = w.heap.size) → Below base w w' → K (a.put o.dst (.slice (some ⟨g, 0, none⟩) (xs.length + news.size) cap)) w') :
    if Region.wanted o (yielded ops a.tmps) = true then Oper.wp Tryz.prog o a w K Q else F := by
  obtain ⟨i, hi, hz0, hz1, hz2⟩ := E.info
  have hbd := E.hb
  refine step_append_lies w hgd s x t ho base e i z 1 bytes E.ht hi hz0 hz1 hz2 E.hz (by decide) v xs.length xs hs hown ⟨b, 0, none⟩ news.size c news.toList hx (by simp) (World.news_of_block hnews) h1 hm (by unfold maxLen; omega) (Nat.le_trans (Nat.mul_le_mul h63 hbd) (by decide)) hbase w.heap.size rfl ?_
  intro g cap w' h2 h3 h4 h5
  refine h g cap w' ?_ h3 h4 ((Below.refl base w).grown h3 hbase (fun k hk => (hown.base_le k hk).1))
  show w'.ownsRow base e 1 _ (xs ++ news.toList).length _
  rw [List.length_append, Array.length_toList]; exact h2
end
/- RefHex -/
section
open Go.RowKit
theorem refDigit_any (n : Nat) (hn : n < 16) (w : World) : Calls Tryz.prog 157 #[.int .u8 (n : Int)] w fun e w' => e = .returned (.int .u8 ((Sha.hexChar n : Nat) : Int)) ∧ w' = w := by
  by_cases h : n < 10
  · have e : ((Sha.hexChar n : Nat) : Int) = 48 + (n : Int) := by unfold Sha.hexChar; rw [if_pos h]; omega
    go_enter Tryz.func157, Tryz.ntmps157
    go_wp2
    go_ret
    exact ⟨ret_int (by rw [e]), rfl⟩
  · have e : ((Sha.hexChar n : Nat) : Int) = 87 + (n : Int) := by unfold Sha.hexChar; rw [if_neg h]; omega
    go_enter Tryz.func157, Tryz.ntmps157
    go_wp2
    go_ret
    exact ⟨ret_int (by rw [e]; omega), rfl⟩
theorem U8s_app (l : List Nat) (a b : Nat) : (U8s l).toList ++ #[Value.int .u8 (a : Int), .int .u8 (b : Int)].toList = (U8s (l ++ [a] ++ [b])).toList := by simp [U8s]
theorem conv_own {base : Nat} {v : Value} {l : List Nat} {w : World} (h : Owns 5 base v (U8s l).toList w) : (convert 141 9 v).run Tryz.prog w = .ok (.string (ofBs l)) w := by
  by_cases hp : 0 < (U8s l).toList.length
  · obtain ⟨g, cap, rfl, _⟩ := h.form hp
    have hl : (loadCells ⟨g, 0, none⟩ (U8s l).toList.length).run Tryz.prog w = .ok ((l.map fun x : Nat => (x : Int)).map (Value.int .u8)).toArray w := by
      rw [Array.length_toList, U8s_size, h.has]
      simp [U8s]
    rw [run_convert_bytes_string w 141 9 5 _ _ _ Tryz.underlying141 Tryz.underlying5 Tryz.underlying9, run_bytesToString w _ _ _ _ hl, fold_push]
    simp [ofBs]
  · have hl : l = [] := by
      rw [Array.length_toList, U8s_size] at hp
      exact List.eq_nil_of_length_eq_zero (by omega)
    subst hl
    obtain ⟨_, h2⟩ := h
    rcases h2 with ⟨rfl, _⟩ | ⟨g, cap, cur, rfl, _⟩
    · exact conv_nil w
    · have hl : (loadCells ⟨g, 0, none⟩ (U8s []).toList.length).run Tryz.prog w = .ok (([] : List Int).map (Value.int .u8)).toArray w := by
        have h3 := run_loadCells_list (P := Tryz.prog) w ⟨g, 0, none⟩ [] (by simp)
        exact h3
      rw [run_convert_bytes_string w 141 9 5 _ _ _ Tryz.underlying141 Tryz.underlying5 Tryz.underlying9, run_bytesToString w _ _ _ _ hl]
      rfl
set_option maxRecDepth 20000 in
set_option maxHeartbeats 1000000 in
theorem refHex_any (s : ByteArray) (hs : s.size ≤ 400000000000) (w : World) :
    Calls Tryz.prog 142 #[.string s] w fun e w' => e = .returned (.string (ofBs (Sha.hex (bs s)))) ∧ Below w.heap.size w w' := by
  go_enter Tryz.func142, Tryz.ntmps142
  go_wp2_with fail
  go_loopw [3, 4] (fun v i wr => ∃ k : Nat, k ≤ s.size ∧ i = .int .i64 (k : Int) ∧ Owns 5 w.heap.size v (U8s (Sha.hex ((bs s).take k))).toList wr ∧ Below w.heap.size w wr) (fun _ i _ => s.size - (intOf i).toNat)
  case atStart => exact ⟨0, by omega, rfl, Owns.nil _ _ _, Below.refl _ _⟩
  case round =>
    obtain ⟨k, hk, rfl, h1, b1⟩ := hrel
    by_cases hlt : k < s.size
    · have hx : s[k].toNat < 256 := s[k].toNat_lt
      have HS : Hid (Sha.hex ((bs s).take (k + 1)) = Sha.hex ((bs s).take k) ++ [Sha.hexChar (s[k].toNat / 16)] ++ [Sha.hexChar (s[k].toNat % 16)]) := by
        unfold Hid; rw [bs_take_succ s k hlt, hex_snoc]
      have hll : Hid ((Sha.hex ((bs s).take k)).length ≤ 2 * s.size) := by unfold Hid; rw [hex_length, List.length_take, bs_length]; omega
      have i0 : (0 : Int) ≤ (k : Int) := by omega
      have i1 : (k : Int) < (s.size : Int) := by omega
      have A1 : Hid (IntKind.u8.wrap ((s[k].toNat : Int) / 16) = ((s[k].toNat / 16 : Nat) : Int)) := by unfold Hid; rw [IntKind.wrap_u8']; omega
      have A2 : Hid ((s[k].toNat : Int).tmod 16 = ((s[k].toNat % 16 : Nat) : Int)) := by unfold Hid; rw [Int.tmod_eq_emod_of_nonneg (by omega)]; omega
      have l1 : Hid (s[k].toNat / 16 < 16) := by unfold Hid; omega
      have l2 : Hid (s[k].toNat % 16 < 16) := by unfold Hid; omega
      have hll2 : Hid ((U8s (Sha.hex ((bs s).take k))).toList.length + 2 ≤ 1000000000000) := by unfold Hid; rw [Array.length_toList, U8s_size]; have := hll.out; omega
      generalize Sha.hex ((bs s).take k) = acc at h1 HS hll hll2
      go_wp2_with fail
      go_region_held3 (fun W => Below w.heap.size w W) (first | exact b1.drew | exact hB | exact (belowAlloc b1 _).drew) (first
        | (go_at_call 157; (first | rw [A1.out] | rw [A2.out]); refine (refDigit_any _ (by omega) _).mono ?_; rintro e w' ⟨rfl, rfl⟩)
        | (refine step_app el5 rfl (.tmp 11) (.tmp 22) rfl w.heap.size u3 (U8s acc).toList rfl (by exact h1.alloc _) wr.heap.size _ #[Value.int .u8 ((Sha.hexChar (s[k].toNat / 16) : Nat) : Int), .int .u8 ((Sha.hexChar (s[k].toNat % 16) : Nat) : Int)] rfl (by exact Has.new _ _ _ _ rfl) (by simp [Value.oneCell']) (by simp) hll2.out (Nat.le_trans b1.size (by simp)) ?_; intro g cap w1 ho hg _ hb2; have hB : Below w.heap.size w w1 := ((belowAlloc b1 _).drew).trans hb2))
      all_goals go_wp2
      all_goals go_light
      all_goals rw [U8s_app, ← HS.out] at ho
      all_goals exact ⟨⟨k + 1, by omega, by go_num, ho, hB⟩, by simp [intOf]; omega⟩
    · obtain rfl : k = s.size := by omega
      rw [List.take_of_length_le (by rw [bs_length]; exact Nat.le_refl _)] at h1
      have hcv := conv_own h1
      go_wp2_with fail
      go_ret
      exact ⟨rfl, b1⟩
end
/- SDig -/
section
open Go.RowKit
theorem dec_small (n : Nat) (h : n < 10) : dec (n : Int) = [48 + n] := by
  unfold dec; rw [Lib.itoa_nonneg, Lib.decDigits, dif_pos h]; simp; omega
theorem dec_big (n : Nat) (h : ¬ n < 10) : dec (n : Int) = dec ((n / 10 : Nat) : Int) ++ [48 + n % 10] := by
  unfold dec; rw [Lib.itoa_nonneg, Lib.itoa_nonneg, Lib.decDigits, dif_neg h, List.map_append]; simp; omega
theorem dec_neg (n : Nat) (h : 1 ≤ n) : dec (-(n : Int)) = 45 :: dec (n : Int) := by
  unfold dec; rw [Lib.itoa_neg n h, Lib.itoa_nonneg]; rfl
/-- the string of one byte that a row was made of -/
theorem conv_one (w : World) (x : Nat) (z : Int) (hz : z = (x : Int)) : (convert 141 9 (.slice (some ⟨w.heap.size, 0, none⟩) 1 1)).run Tryz.prog (w.alloc (.cells #[.int .u8 z] 5)) = .ok (.string (ofBs [x])) (w.alloc (.cells #[.int .u8 z] 5)) := by
  subst hz
  exact conv_str _ _ [x] 5 1 (Has.new _ _ _ _ rfl)
set_option maxRecDepth 20000 in
theorem refDigits_pos (n : Nat) : ∀ (_ : (n : Int) ≤ 9223372036854775807) (w : World), Calls Tryz.prog 143 #[.int .i64 (n : Int)] w fun e w' => e = .returned (.string (ofBs (dec (n : Int)))) ∧ Below w.heap.size w w' := by
  induction n using Nat.strongRecOn with
  | _ n ih =>
    intro hn w
    have HC := fun w => conv_one w (48 + n % 10) (48 + (n : Int) % 10) (by omega)
    have d0 : ¬ (n : Int) < 0 := by omega
    by_cases h : n < 10
    · have E : Hid (dec (n : Int) = [48 + n % 10]) := by unfold Hid; rw [dec_small n h]; congr 1; omega
      have d1 : ¬ (10 : Int) ≤ (n : Int) := by omega
      have F : Hid ((⟨#[]⟩ : ByteArray) ++ ofBs [48 + n % 10] = ofBs (dec (n : Int))) := by unfold Hid; rw [E.out]; rfl
      have q1 : ¬ 9223372036854775807 < (⟨#[]⟩ : ByteArray).size + (ofBs [48 + n % 10]).size := by
        rw [ofBs_size]; show ¬ 9223372036854775807 < 0 + 1; omega
      generalize ofBs [48 + n % 10] = A at *
      clear ih
      go_enter Tryz.func143, Tryz.ntmps143
      go_wp2_with fail
      go_ret
      exact ⟨by rw [F.out]; rfl, (Below.refl _ _).alloc (Nat.le_refl _) _⟩
    · have E : Hid (dec (n : Int) = dec ((n / 10 : Nat) : Int) ++ [48 + n % 10]) := dec_big n h
      have d1 : (10 : Int) ≤ (n : Int) := by omega
      have IH := ih (n / 10) (by omega) (by omega) w
      have el := dec_length ((n / 10 : Nat) : Int) (by omega) (by omega)
      rw [← ofBs_size] at el
      have F : Hid (ofBs (dec ((n / 10 : Nat) : Int)) ++ ofBs [48 + n % 10] = ofBs (dec (n : Int))) := by unfold Hid; rw [E.out, ofBs_append]
      have fl : (ofBs [48 + n % 10]).size = 1 := ofBs_size _
      generalize ofBs (dec ((n / 10 : Nat) : Int)) = A at *
      generalize ofBs [48 + n % 10] = B at *
      have q1 : ¬ 9223372036854775807 < A.size + B.size := by omega
      rw [Int.natCast_ediv] at IH
      clear ih el fl E
      go_enter Tryz.func143, Tryz.ntmps143
      go_wp2_with fail
      refine IH.mono ?_
      rintro e w1 ⟨rfl, b1⟩
      go_wp2_with fail
      go_ret
      exact ⟨by rw [F.out]; rfl, belowAlloc b1 _⟩
set_option maxRecDepth 20000 in
theorem refDigits_any (n : Int) (h0 : -9223372036854775808 ≤ n) (h1 : n ≤ 9223372036854775807) (w : World) : Calls Tryz.prog 143 #[.int .i64 n] w fun e w' => e = .returned (.string (ofBs (dec n))) ∧ Below w.heap.size w w' := by
  by_cases hn : 0 ≤ n
  · obtain ⟨m, rfl⟩ := Int.eq_ofNat_of_zero_le hn
    exact refDigits_pos m h1 w
  · obtain ⟨m, hm⟩ : ∃ m : Nat, n = -(m : Int) := ⟨n.natAbs, by omega⟩
    have d0 : n < 0 := by omega
    have e1 : n.tdiv 10 = -((m / 10 : Nat) : Int) := by
      rw [hm, Int.neg_tdiv, Int.tdiv_eq_ediv_of_nonneg (by omega)]; rfl
    have e2 : n.tmod 10 = -((m % 10 : Nat) : Int) := by
      rw [hm, Int.neg_tmod, Int.tmod_eq_emod_of_nonneg (by omega)]; rfl
    have HC := fun w => conv_one w (48 + m % 10) (48 + ((m % 10 : Nat) : Int)) (by omega)
    have D : dec n = 45 :: dec (m : Int) := by rw [hm]; exact dec_neg m (by omega)
    by_cases h : m < 10
    · have F : Hid ((⟨#[45]⟩ : ByteArray) ++ ⟨#[]⟩ ++ ofBs [48 + m % 10] = ofBs (dec n)) := by
        unfold Hid; rw [D, dec_small m h, Nat.mod_eq_of_lt h]; rfl
      have fl : (ofBs [48 + m % 10]).size = 1 := ofBs_size _
      have e0 : m / 10 = 0 := by omega
      rw [e0] at e1
      have e1' : n.tdiv 10 = 0 := e1
      generalize ofBs [48 + m % 10] = B at *
      have q2 : ¬ 9223372036854775807 < 1 + B.size := by omega
      have hr : ((m % 10 : Nat) : Int) < 10 := by omega
      have w2 : wrap64 (48 + ((m % 10 : Nat) : Int)) = 48 + ((m % 10 : Nat) : Int) := by unfold wrap64; omega
      have w3 : (48 + ((m % 10 : Nat) : Int)) % 256 = 48 + ((m % 10 : Nat) : Int) := by omega
      clear fl D e1 e0
      generalize m % 10 = r at *
      clear hm
      go_enter Tryz.func143, Tryz.ntmps143
      go_wp2_with fail
      go_ret
      exact ⟨by rw [F.out]; rfl, (Below.refl _ _).alloc (Nat.le_refl _) _⟩
    · have IH := refDigits_pos (m / 10) (by omega) w
      have el := dec_length ((m / 10 : Nat) : Int) (by omega) (by omega)
      rw [← ofBs_size] at el
      have F : Hid ((⟨#[45]⟩ : ByteArray) ++ ofBs (dec ((m / 10 : Nat) : Int)) ++ ofBs [48 + m % 10] = ofBs (dec n)) := by
        unfold Hid; rw [D, dec_big m h, show (⟨#[45]⟩ : ByteArray) = ofBs [45] from rfl, ← ofBs_append, ← ofBs_append]; rfl
      have fl : (ofBs [48 + m % 10]).size = 1 := ofBs_size _
      have d2 : ((-((m / 10 : Nat) : Int)) != 0) = true := by rw [bne_iff_ne]; omega
      generalize ofBs (dec ((m / 10 : Nat) : Int)) = A at *
      generalize ofBs [48 + m % 10] = B at *
      have q1 : ¬ 9223372036854775807 < 1 + A.size := by omega
      have q2 : ¬ 9223372036854775807 < 1 + A.size + B.size := by omega
      have hp : ((m / 10 : Nat) : Int) ≤ 922337203685477580 := by omega
      have hr : ((m % 10 : Nat) : Int) < 10 := by omega
      have w1 : wrap64 (-((m / 10 : Nat) : Int)) = -((m / 10 : Nat) : Int) := by unfold wrap64; omega
      have w2 : wrap64 (48 + ((m % 10 : Nat) : Int)) = 48 + ((m % 10 : Nat) : Int) := by unfold wrap64; omega
      have w3 : (48 + ((m % 10 : Nat) : Int)) % 256 = 48 + ((m % 10 : Nat) : Int) := by omega
      clear el fl D
      generalize m / 10 = p at *
      generalize m % 10 = r at *
      clear hm
      go_enter Tryz.func143, Tryz.ntmps143
      go_wp2_with fail
      refine IH.mono ?_
      rintro e w4 ⟨rfl, b1⟩
      go_wp2_with fail
      go_ret
      exact ⟨by rw [F.out]; rfl, belowAlloc b1 _⟩
theorem refName_any (d : ByteArray) (i : Int) (hd : d.size ≤ 400000000000) (h0 : -9223372036854775808 ≤ i) (h1 : i ≤ 9223372036854775807) (w : World) :
    Calls Tryz.prog 124 #[.string d, .int .i64 i] w fun e w' => e = .returned (.string (ofBs (nm (bs d) i))) ∧ Below w.heap.size w w' := by
  have z1 : (ofBs (Sha.hex (bs d))).size = 2 * d.size := by rw [ofBs_size, hex_length, bs_length]
  have z2 : (ofBs (dec i)).size ≤ 21 := by rw [ofBs_size]; exact dec_length i h0 h1
  have E : Hid (ofBs (Sha.hex (bs d)) ++ ⟨#[46]⟩ ++ ofBs (dec i) = ofBs (nm (bs d) i)) := by
    unfold Hid nm; rw [ofBs_append, ofBs_append]; rfl
  go_enter Tryz.func124, Tryz.ntmps124
  go_wp2_with fail
  refine (refHex_any d hd w).mono ?_
  rintro e w1 ⟨rfl, b1⟩
  have hB := refDigits_any i h0 h1 w1
  generalize ofBs (Sha.hex (bs d)) = A at *
  generalize ofBs (dec i) = B at *
  have q1 : ¬ 9223372036854775807 < A.size + 1 := by omega
  have q2 : ¬ 9223372036854775807 < A.size + 1 + B.size := by omega
  clear z1 z2
  go_wp2_with fail
  refine hB.mono ?_
  rintro e w2 ⟨rfl, b2⟩
  go_wp2_with fail
  go_ret
  exact ⟨by rw [E.out]; rfl, belowCall b1 b2⟩
end
/- SRMake -/
section
open Go.RowKit
/-- the memory of the document's Make: the shard, and the object that is told -/
structure RkW (c o : Array Value) (w W : World) : Prop where
  hs : Has W w.heap.size c 155
  ho : Has W (w.heap.size + 1) o 131
  bl : Below w.heap.size w W
theorem RkW.start (w : World) (c o : Array Value) {W : World} (h : Below ((w.alloc (.cells c 155)).alloc (.cells o 131)).heap.size ((w.alloc (.cells c 155)).alloc (.cells o 131)) W) : RkW c o w W := by
  obtain ⟨h1, h2, h3, h4⟩ := two_new w c o 155 131
  exact ⟨h1.below h (by omega), h2.below h (by omega), belowCall h3 h⟩
theorem RkW.next {c o : Array Value} {w W W' : World} (h : RkW c o w W) (hb : Below W.heap.size W W') : RkW c o w W' :=
  ⟨h.hs.below hb h.hs.lt, h.ho.below hb h.ho.lt, belowCall h.bl hb⟩
set_option maxRecDepth 20000 in
theorem refMake_arg (K N : Int) (d : ByteArray) (i : Int) (p : ByteArray) (h : okS K N d i = false) (w : World) :
    Calls Tryz.prog 108 #[.agg (shc K N d i p)] w fun e w' => e = .returned (.tuple #[obv ⟨#[]⟩ ⟨#[]⟩, .int .i64 1]) ∧ Below w.heap.size w w' := by
  unfold shc
  go_enter Tryz.func108, Tryz.ntmps108
  go_wp2_with fail
  refine (refCode_any K N _).mono ?_
  rintro e w1 ⟨rfl, b1⟩
  have M1 : RkW (shc K N d i p) noO w w1 := RkW.start w _ _ b1
  clear b1
  obtain ⟨c0, c1, c2, c3, c4⟩ := shc_cells M1.hs
  obtain ⟨r0, r1, f0, f1⟩ := obj_cells M1.ho
  by_cases h1 : okC K N = true
  · have h2 : Hid ((decide (d.size = 32) && (decide (0 ≤ i) && decide (i < N))) = false) := by
      unfold okS at h; rw [h1, Bool.true_and] at h; exact h
    rw [h1]
    by_cases hd : d.size = 32
    · have q1 : ((d.size : Int) != 32) = false := by rw [hd]; rfl
      have q2 : (decide (0 ≤ i) && decide (i < N)) = false := by have := h2.out; rw [hd] at this; simpa using this
      by_cases h3 : i < 0
      · clear q2 h2
        go_wp2_with fail
        exact ret_obj Tryz.results108 rfl rfl rfl (obj_put M1.ho _ _) ⟨rfl, below_put M1.bl (by omega) _ _⟩
      · have h4 : N ≤ i := by
          have h3' : 0 ≤ i := by omega
          simp only [h3', decide_true, Bool.true_and, decide_eq_false_iff_not] at q2
          omega
        clear q2 h2
        go_wp2_with fail
        exact ret_obj Tryz.results108 rfl rfl rfl (obj_put M1.ho _ _) ⟨rfl, below_put M1.bl (by omega) _ _⟩
    · have q1 : ((d.size : Int) != 32) = true := by rw [bne_iff_ne]; omega
      go_wp2_with fail
      exact ret_obj Tryz.results108 rfl rfl rfl (obj_put M1.ho _ _) ⟨rfl, below_put M1.bl (by omega) _ _⟩
  · have h1 : okC K N = false := by simpa using h1
    rw [h1]
    go_wp2_with fail
    exact ret_obj Tryz.results108 rfl rfl rfl (obj_put M1.ho _ _) ⟨rfl, below_put M1.bl (by omega) _ _⟩
set_option maxRecDepth 20000 in
theorem refMake_big (K N : Int) (d : ByteArray) (i : Int) (p : ByteArray) (h : okS K N d i = true) (hp : 65461 < p.size) (w : World) :
    Calls Tryz.prog 108 #[.agg (shc K N d i p)] w fun e w' => e = .returned (.tuple #[obv ⟨#[]⟩ ⟨#[]⟩, .int .i64 40]) ∧ Below w.heap.size w w' := by
  unfold okS at h
  simp only [Bool.and_eq_true, decide_eq_true_eq] at h
  obtain ⟨⟨h1, hd⟩, h2, h3⟩ := h
  have q0 : (65461 : Int) < (p.size : Int) := by omega
  unfold shc
  go_enter Tryz.func108, Tryz.ntmps108
  go_wp2_with fail
  refine (refCode_any K N _).mono ?_
  rintro e w1 ⟨rfl, b1⟩
  have M1 : RkW (shc K N d i p) noO w w1 := RkW.start w _ _ b1
  clear b1
  obtain ⟨c0, c1, c2, c3, c4⟩ := shc_cells M1.hs
  obtain ⟨r0, r1, f0, f1⟩ := obj_cells M1.ho
  rw [h1]
  have q1 : ((d.size : Int) != 32) = false := by rw [hd]; rfl
  go_wp2_with fail
  exact ret_obj Tryz.results108 rfl rfl rfl (obj_put M1.ho _ _) ⟨rfl, below_put M1.bl (by omega) _ _⟩
set_option maxRecDepth 20000 in
theorem refMake_ok (K N : Int) (d : ByteArray) (i : Int) (p : ByteArray) (h : okS K N d i = true) (hp : p.size ≤ 65461) (w : World) :
    Calls Tryz.prog 108 #[.agg (shc K N d i p)] w fun e w' => e = .returned (.tuple #[obv (ofBs (nm (bs d) i)) (ofBs (dat K.toNat N.toNat i.toNat (bs d) (bs p))), .int .i64 0]) ∧ Below w.heap.size w w' := by
  unfold okS at h
  simp only [Bool.and_eq_true, decide_eq_true_eq] at h
  obtain ⟨⟨h1, hd⟩, h2, h3⟩ := h
  have h1' := h1
  simp only [okC, Bool.and_eq_true, decide_eq_true_eq] at h1'
  obtain ⟨⟨h4, h5⟩, h6⟩ := h1'
  have q0 : ¬ (65461 : Int) < (p.size : Int) := by omega
  obtain ⟨k, rfl⟩ := Int.eq_ofNat_of_zero_le (show 0 ≤ K by omega)
  obtain ⟨n, rfl⟩ := Int.eq_ofNat_of_zero_le (show 0 ≤ N by omega)
  obtain ⟨j, rfl⟩ := Int.eq_ofNat_of_zero_le h2
  simp only [Int.toNat_natCast]
  have HC : ∀ w : World, (convert 141 9 (.slice (some ⟨w.heap.size, 0, none⟩) 7 7)).run Tryz.prog (w.alloc (.cells #[.int .u8 (k : Int), .int .u8 (n : Int), .int .u8 (j : Int), .int .u8 0, .int .u8 ((p.size : Int) / 65536), .int .u8 ((p.size : Int) / 256 % 256), .int .u8 ((p.size : Int) % 256)] 5)) = .ok (.string (ofBs [k, n, j, 0, p.size / 65536, p.size / 256 % 256, p.size % 256])) (w.alloc (.cells #[.int .u8 (k : Int), .int .u8 (n : Int), .int .u8 (j : Int), .int .u8 0, .int .u8 ((p.size : Int) / 65536), .int .u8 ((p.size : Int) / 256 % 256), .int .u8 ((p.size : Int) % 256)] 5)) := fun w =>
    conv_str _ _ [k, n, j, 0, p.size / 65536, p.size / 256 % 256, p.size % 256] 5 7 (Has.new _ _ _ _ rfl)
  have hB : (ofBs [k, n, j, 0, p.size / 65536, p.size / 256 % 256, p.size % 256]).size = 7 := ofBs_size _
  have EP : Hid ((⟨#[115, 104, 100, 49]⟩ : ByteArray) ++ ofBs [k, n, j, 0, p.size / 65536, p.size / 256 % 256, p.size % 256] ++ d ++ p = ofBs (pre k n j (bs d) (bs p))) := by
    unfold Hid pre be4
    rw [bs_length, ofBs_append, ofBs_append, ofBs_bs, ofBs_bs, ofBs_append, ofBs_append, ByteArray.append_assoc (a := ofBs [115, 104, 100, 49]), ← ofBs_append [k, n, j]]
    have e1 : p.size / 16777216 % 256 = 0 := by omega
    have e2 : p.size / 65536 % 256 = p.size / 65536 := by omega
    rw [e1, e2]; rfl
  have hPl : (ofBs (pre k n j (bs d) (bs p))).size = 43 + p.size := by
    rw [ofBs_size]; unfold pre be4; simp [bs_length, hd]; omega
  have hPlt : ∀ x ∈ pre k n j (bs d) (bs p), x < 256 := by
    intro x hx
    unfold pre be4 at hx
    simp only [List.mem_append, List.mem_cons, List.not_mem_nil, or_false] at hx
    rcases hx with (((hx | hx) | hx) | hx) | hx
    · omega
    · omega
    · omega
    · exact bs_lt d x hx
    · exact bs_lt p x hx
  have hbP := bs_ofBs _ hPlt
  have ED : Hid (ofBs (pre k n j (bs d) (bs p)) ++ ofBs (Sha.digest (pre k n j (bs d) (bs p))) = ofBs (dat k n j (bs d) (bs p))) := by
    unfold Hid dat; rw [ofBs_append]
  have hDl : (ofBs (Sha.digest (pre k n j (bs d) (bs p)))).size = 32 := by rw [ofBs_size, digest_length]
  have HS : Hid (∀ w, Calls Tryz.prog 107 #[.string (ofBs (pre k n j (bs d) (bs p)))] w fun e w' => e = .returned (.string (ofBs (Sha.digest (pre k n j (bs d) (bs p))))) ∧ Below w.heap.size w w') := by
    intro w
    have := refSum_any (ofBs (pre k n j (bs d) (bs p))) (by omega) w
    rw [hbP] at this; exact this
  clear hPlt hbP
  generalize ofBs [k, n, j, 0, p.size / 65536, p.size / 256 % 256, p.size % 256] = B at *
  generalize ofBs (dat k n j (bs d) (bs p)) = Y at *
  generalize ofBs (Sha.digest (pre k n j (bs d) (bs p))) = D at *
  generalize ofBs (pre k n j (bs d) (bs p)) = A at *
  have HN : Hid (∀ w, Calls Tryz.prog 124 #[.string d, .int .i64 (j : Int)] w fun e w' => e = .returned (.string (ofBs (nm (bs d) j))) ∧ Below w.heap.size w w') := fun w => refName_any d j (by omega) (by omega) (by omega) w
  generalize ofBs (nm (bs d) (j : Int)) = X at *
  have s1 : ¬ 9223372036854775807 < 4 + B.size := by omega
  have s2 : ¬ 9223372036854775807 < 4 + B.size + d.size := by omega
  have s3 : ¬ 9223372036854775807 < 4 + B.size + d.size + p.size := by omega
  have s4 : ¬ 9223372036854775807 < A.size + D.size := by omega
  clear hB hPl hDl
  unfold shc
  go_enter Tryz.func108, Tryz.ntmps108
  go_wp2_with fail
  refine (refCode_any k n _).mono ?_
  rintro e w1 ⟨rfl, b1⟩
  have M1 : RkW (shc k n d j p) noO w w1 := RkW.start w _ _ b1
  clear b1
  obtain ⟨c0, c1, c2, c3, c4⟩ := shc_cells M1.hs
  have d2 := fun o => (shc_cells (M1.hs.alloc o)).2.2.1
  have d3 := fun o => (shc_cells (M1.hs.alloc o)).2.2.2.1
  have d4 := fun o => (shc_cells (M1.hs.alloc o)).2.2.2.2
  rw [h1]
  have q1 : ((d.size : Int) != 32) = false := by rw [hd]; rfl
  go_wp2_with fail
  refine (HN.out _).mono ?_
  rintro e w2 ⟨rfl, b2⟩
  have M2 : RkW (shc k n d j p) noO w w2 := (M1.next ((Below.refl _ _).alloc (Nat.le_refl _) _)).next b2
  rw [EP.out]
  clear b2 M1 c0 c1 c2 c3 c4 d2 d3 d4 HC s1 s2 s3 HN EP
  go_wp2_with fail
  refine (HS.out _).mono ?_
  rintro e w3 ⟨rfl, b3⟩
  have M3 := M2.next b3
  obtain ⟨r0, r1, f0, f1⟩ := obj_cells M3.ho
  clear M2 b3 HS
  go_wp2_with fail
  rw [ED.out]
  exact ret_obj Tryz.results108 rfl rfl rfl (obj_put M3.ho _ _) ⟨rfl, below_put M3.bl (by omega) _ _⟩
/-- THE DOCUMENT's MAKE. -/
theorem refMake_any (K N : Int) (d : ByteArray) (i : Int) (p : ByteArray) (w : World) :
    Calls Tryz.prog 108 #[.agg (shc K N d i p)] w fun e w' => e = .returned (mkV K N d i p) ∧ Below w.heap.size w w' := by
  unfold mkV mkN mkD mkE
  by_cases h : okS K N d i = true
  · by_cases hp : p.size ≤ 65461
    · simp only [h, hp, if_true]
      exact refMake_ok K N d i p h hp w
    · simp only [h, hp, if_true, if_false]
      exact refMake_big K N d i p h (by omega) w
  · have h' : okS K N d i = false := by simpa using h
    simp only [h', Bool.false_eq_true, if_false]
    exact refMake_arg K N d i p h' w
end
/- SRRead -/
section
open Go.RowKit
/-- the memory of the document's Read: the object, and the shard that is told -/
structure RfW (a s : ByteArray) (w W : World) : Prop where
  ho : Has W w.heap.size #[.string a, .string s] 131
  hr : Has W (w.heap.size + 1) noS 155
  bl : Below w.heap.size w W
theorem RfW.start (w : World) (a s : ByteArray) : RfW a s w ((w.alloc (.cells #[.string a, .string s] 131)).alloc (.cells noS 155)) := by
  obtain ⟨h1, h2, h3, h4⟩ := two_new w #[.string a, .string s] noS 131 155
  exact ⟨h1, h2, h3⟩
theorem RfW.next {a s : ByteArray} {w W W' : World} (h : RfW a s w W) (hb : Below W.heap.size W W') : RfW a s w W' :=
  ⟨h.ho.below hb h.ho.lt, h.hr.below hb h.hr.lt, belowCall h.bl hb⟩
theorem RfW.put {a s : ByteArray} {w W : World} {b : Nat} (h : RfW a s w W) (hb : w.heap.size + 1 < b) (v0 v1 v2 v3 v4 : Value) : RfW a s w (((((W.setCell ⟨b, 0, none⟩ v0).setCell ⟨b, 1, none⟩ v1).setCell ⟨b, 2, none⟩ v2).setCell ⟨b, 3, none⟩ v3).setCell ⟨b, 4, none⟩ v4) :=
  ⟨((((h.ho.other _ _ (by show w.heap.size ≠ b; omega)).other _ _ (by show w.heap.size ≠ b; omega)).other _ _ (by show w.heap.size ≠ b; omega)).other _ _ (by show w.heap.size ≠ b; omega)).other _ _ (by show w.heap.size ≠ b; omega),
   ((((h.hr.other _ _ (by show w.heap.size + 1 ≠ b; omega)).other _ _ (by show w.heap.size + 1 ≠ b; omega)).other _ _ (by show w.heap.size + 1 ≠ b; omega)).other _ _ (by show w.heap.size + 1 ≠ b; omega)).other _ _ (by show w.heap.size + 1 ≠ b; omega),
   below_put5 h.bl (by omega) _ _ _ _ _⟩
/-- what the slots of the document's Read hold -/
def rv (n : Nat) (s : ByteArray) : Nat → Value
  | 12 => .pointer (some ⟨n, 1, none⟩)
  | 13 => .string s
  | 14 => .int .u8 ((bs s).getD 4 0 : Nat)
  | 15 => .int .i64 (fB s 4)
  | 16 => .pointer (some ⟨n, 1, none⟩)
  | 17 => .string s
  | 18 => .int .u8 ((bs s).getD 5 0 : Nat)
  | 19 => .int .i64 (fB s 5)
  | 20 => .agg #[.int .i64 (fB s 4), .int .i64 (fB s 5)]
  | 21 => .pointer (some ⟨n, 1, none⟩)
  | 22 => .string s
  | 23 => .string (fD s)
  | 24 => .pointer (some ⟨n, 1, none⟩)
  | 25 => .string s
  | 26 => .int .u8 ((bs s).getD 6 0 : Nat)
  | 27 => .int .i64 (fB s 6)
  | 28 => .pointer (some ⟨n, 1, none⟩)
  | 29 => .string s
  | 30 => .pointer (some ⟨n, 1, none⟩)
  | 31 => .string s
  | 32 => .int .i64 (s.size : Int)
  | 33 => .int .i64 ((s.size - 32 : Nat) : Int)
  | 34 => .string (fP s)
  | 35 => .agg (shc (fB s 4) (fB s 5) (fD s) (fB s 6) (fP s))
  | _ => undef
def rF (n : Nat) (s : ByteArray) (d : Nat) (v : Value) (W : World) : Prop :=
  match d with
  | 4 => ∃ b, v = .pointer (some ⟨b, 0, none⟩) ∧ Has W b noS 155 ∧ n + 1 < b
  | _ => v = rv n s d
theorem rF_mono (n : Nat) (s : ByteArray) (d : Nat) (v : Value) (w w' : World) (h : rF n s d v w) (hb : Below w.heap.size w w') : rF n s d v w' := by
  unfold rF at h ⊢
  split
  · obtain ⟨b, h1, h2, h3⟩ := h
    exact ⟨b, h1, h2.below hb h2.lt, h3⟩
  · rename_i hne
    split at h
    · exact absurd rfl (hne)
    · exact h
set_option maxRecDepth 20000 in
theorem refRead_short (a s : ByteArray) (h : s.size < 75) (w : World) :
    Calls Tryz.prog 85 #[obv a s] w fun e w' => e = .returned (.tuple #[.agg noS, .int .i64 4]) ∧ Below w.heap.size w w' := by
  unfold obv
  have q0 : (s.size : Int) < 75 := by omega
  go_enter Tryz.func85, Tryz.ntmps85
  obtain ⟨h1, h2, h3, h4⟩ := two_new w #[.string a, .string s] noS 131 155
  go_wp2_with fail
  exact ret_shard33 Tryz.results85 rfl rfl rfl h2 ⟨rfl, h3⟩
set_option maxRecDepth 20000 in
theorem refRead_mid (a s : ByteArray) (h1 : 75 ≤ s.size) (h2 : s.size ≤ 1000000) (w : World) :
    Calls Tryz.prog 85 #[obv a s] w fun e w' => e = .returned (rdV a s) ∧ Below w.heap.size w w' := by
  have q0 : ¬ (s.size : Int) < 75 := by omega
  have q32 : IntKind.i64.wrap ((s.size : Int) - 32) = ((s.size - 32 : Nat) : Int) := by rw [wrap_i64_of (by omega) (by omega)]; omega
  have HM : Hid (∀ w, Calls Tryz.prog 108 #[.agg (shc (fB s 4) (fB s 5) (fD s) (fB s 6) (fP s))] w fun e w' => e = .returned (.tuple #[.agg #[.string (mkN (fB s 4) (fB s 5) (fD s) (fB s 6) (fP s)), .string (mkD (fB s 4) (fB s 5) (fD s) (fB s 6) (fP s))], .int .i64 (mkE (fB s 4) (fB s 5) (fD s) (fB s 6) (fP s))]) ∧ Below w.heap.size w w') := fun w => refMake_any _ _ _ _ _ w
  have HR : Hid (rdV a s = if (mkE (fB s 4) (fB s 5) (fD s) (fB s 6) (fP s) = 0 ∧ mkN (fB s 4) (fB s 5) (fD s) (fB s 6) (fP s) = a ∧ mkD (fB s 4) (fB s 5) (fD s) (fB s 6) (fP s) = s) then .tuple #[.agg (shc (fB s 4) (fB s 5) (fD s) (fB s 6) (fP s)), .int .i64 0] else .tuple #[.agg noS, .int .i64 4]) := by
    unfold Hid rdV rdOk
    simp only [h1, decide_true, Bool.true_and, Bool.and_eq_true, decide_eq_true_eq]
  rw [HR.out]
  clear HR
  unfold obv
  go_enter Tryz.func85, Tryz.ntmps85
  go_wp2_with fail
  have R0 := RfW.start w a s
  refine Tl.wp_tail_lit (by kernel_rfl) 25 [12, 13, 14, 15, 16, 17, 18, 19, 20, 21, 22, 23, 24, 25, 26, 27, 28, 29, 30, 31, 32, 33, 34, 35, 4] 50 rfl (by kernel_rfl) (RfW a s w) (rF w.heap.size s) (rF_mono _ _) ⟨R0.ho.drew, R0.hr.drew, R0.bl.drew⟩
    ⟨fun a' W' hC hF => ?_, fun a' W' hC hF => ?_, fun a' W' hC hF => ?_, fun a' W' hC hF => ?_, fun a' W' hC hF => ?_, fun a' W' hC hF => ?_, fun a' W' hC hF => ?_, fun a' W' hC hF => ?_, fun a' W' hC hF => ?_, fun a' W' hC hF => ?_, fun a' W' hC hF => ?_, fun a' W' hC hF => ?_, fun a' W' hC hF => ?_, fun a' W' hC hF => ?_, fun a' W' hC hF => ?_, fun a' W' hC hF => ?_, fun a' W' hC hF => ?_, fun a' W' hC hF => ?_, fun a' W' hC hF => ?_, fun a' W' hC hF => ?_, fun a' W' hC hF => ?_, fun a' W' hC hF => ?_, fun a' W' hC hF => ?_, fun a' W' hC hF => ?_, fun a' W' hC hF => ?_, trivial⟩ ?_
  · exact Tl.st_v 12 _ rfl rfl hC rfl (rn_f27_1 rfl ((hF 1 (by decide +kernel)).2 (by decide)))
  · exact Tl.st_v 13 _ rfl rfl hC rfl (rn_load9 rfl ((hF 12 (by decide +kernel)).1 (by decide)) (obj_cells hC.ho).2.1)
  · exact Tl.st_v 14 _ rfl rfl hC rfl (rn_index9 (k := 4) rfl ((hF 13 (by decide +kernel)).1 (by decide)) rfl (by omega) rfl)
  · exact Tl.st_v 15 _ rfl rfl hC rfl (rn_c53 rfl ((hF 14 (by decide +kernel)).1 (by decide)) (fB_byte s 4).1 (fB_byte s 4).2)
  · exact Tl.st_v 16 _ rfl rfl hC rfl (rn_f27_1 rfl ((hF 1 (by decide +kernel)).2 (by decide)))
  · exact Tl.st_v 17 _ rfl rfl hC rfl (rn_load9 rfl ((hF 16 (by decide +kernel)).1 (by decide)) (obj_cells hC.ho).2.1)
  · exact Tl.st_v 18 _ rfl rfl hC rfl (rn_index9 (k := 5) rfl ((hF 17 (by decide +kernel)).1 (by decide)) rfl (by omega) rfl)
  · exact Tl.st_v 19 _ rfl rfl hC rfl (rn_c53 rfl ((hF 18 (by decide +kernel)).1 (by decide)) (fB_byte s 5).1 (fB_byte s 5).2)
  · exact Tl.st_v 20 _ rfl rfl hC rfl (rn_build23 rfl ((hF 15 (by decide +kernel)).1 (by decide)) ((hF 19 (by decide +kernel)).1 (by decide)))
  · exact Tl.st_v 21 _ rfl rfl hC rfl (rn_f27_1 rfl ((hF 1 (by decide +kernel)).2 (by decide)))
  · exact Tl.st_v 22 _ rfl rfl hC rfl (rn_load9 rfl ((hF 21 (by decide +kernel)).1 (by decide)) (obj_cells hC.ho).2.1)
  · exact Tl.st_v 23 _ rfl rfl hC rfl (rn_sl9 (lo := 11) (hi := 43) rfl ((hF 22 (by decide +kernel)).1 (by decide)) rfl rfl (by omega) (by omega))
  · exact Tl.st_v 24 _ rfl rfl hC rfl (rn_f27_1 rfl ((hF 1 (by decide +kernel)).2 (by decide)))
  · exact Tl.st_v 25 _ rfl rfl hC rfl (rn_load9 rfl ((hF 24 (by decide +kernel)).1 (by decide)) (obj_cells hC.ho).2.1)
  · exact Tl.st_v 26 _ rfl rfl hC rfl (rn_index9 (k := 6) rfl ((hF 25 (by decide +kernel)).1 (by decide)) rfl (by omega) rfl)
  · exact Tl.st_v 27 _ rfl rfl hC rfl (rn_c53 rfl ((hF 26 (by decide +kernel)).1 (by decide)) (fB_byte s 6).1 (fB_byte s 6).2)
  · exact Tl.st_v 28 _ rfl rfl hC rfl (rn_f27_1 rfl ((hF 1 (by decide +kernel)).2 (by decide)))
  · exact Tl.st_v 29 _ rfl rfl hC rfl (rn_load9 rfl ((hF 28 (by decide +kernel)).1 (by decide)) (obj_cells hC.ho).2.1)
  · exact Tl.st_v 30 _ rfl rfl hC rfl (rn_f27_1 rfl ((hF 1 (by decide +kernel)).2 (by decide)))
  · exact Tl.st_v 31 _ rfl rfl hC rfl (rn_load9 rfl ((hF 30 (by decide +kernel)).1 (by decide)) (obj_cells hC.ho).2.1)
  · exact Tl.st_v 32 _ rfl rfl hC rfl (rn_len9 rfl ((hF 31 (by decide +kernel)).1 (by decide)))
  · exact Tl.st_v 33 _ rfl rfl hC rfl (rn_subI rfl ((hF 32 (by decide +kernel)).1 (by decide)) rfl q32)
  · exact Tl.st_v 34 _ rfl rfl hC rfl (rn_sl9 (lo := 43) (hi := s.size - 32) rfl ((hF 29 (by decide +kernel)).1 (by decide)) rfl ((hF 33 (by decide +kernel)).1 (by decide)) (by omega) (by omega))
  · exact Tl.st_v 35 _ rfl rfl hC rfl (rn_build33 rfl ((hF 20 (by decide +kernel)).1 (by decide)) ((hF 23 (by decide +kernel)).1 (by decide)) ((hF 27 (by decide +kernel)).1 (by decide)) ((hF 34 (by decide +kernel)).1 (by decide)))
  · refine Tl.st_val 4 (.pointer (some ⟨W'.heap.size, 0, none⟩)) rfl (Tl.wanted_none rfl) (rn_alloc33 rfl) (hC.next ((Below.refl _ _).alloc (Nat.le_refl _) _)) ((Below.refl _ _).alloc (Nat.le_refl _) _) ?_
    exact ⟨W'.heap.size, rfl, Has.new _ _ _ _ rfl, hC.hr.lt⟩
  · intro v W' hC hv
    have v35 : v 35 = .agg (shc (fB s 4) (fB s 5) (fD s) (fB s 6) (fP s)) := hv 35 (by decide)
    obtain ⟨b, v4, hb, hlt⟩ : ∃ b, v 4 = .pointer (some ⟨b, 0, none⟩) ∧ Has W' b noS 155 ∧ w.heap.size + 1 < b := hv 4 (by decide)
    obtain ⟨c0, c1, c2, c3, c4, f0, f1, f2, f3, f4⟩ := noS_cells hb
    simp only [Tl.fill, v35, v4, shc]
    obtain ⟨X, hXe⟩ : ∃ X, Hid (mkN (fB s 4) (fB s 5) (fD s) (fB s 6) (fP s) = X) := ⟨_, rfl⟩
    obtain ⟨Y, hYe⟩ : ∃ Y, Hid (mkD (fB s 4) (fB s 5) (fD s) (fB s 6) (fP s) = Y) := ⟨_, rfl⟩
    obtain ⟨E, hEe⟩ : ∃ E, Hid (mkE (fB s 4) (fB s 5) (fD s) (fB s 6) (fP s) = E) := ⟨_, rfl⟩
    rw [hXe.out, hYe.out, hEe.out] at HM
    go_wp2_with fail
    refine (HM.out _).mono ?_
    rintro e w2 ⟨rfl, b2⟩
    have R3 := (hC.put hlt _ _ _ _ _).next b2
    have S2 := shc_put hb (fB s 4) (fB s 5) (fB s 6) (fD s) (fP s)
    have S3 : Has w2 b (shc (fB s 4) (fB s 5) (fD s) (fB s 6) (fP s)) 155 := S2.below b2 S2.lt
    clear b2 S2 c0 c1 c2 c3 c4 f0 f1 f2 f3 f4 HM hb R0
    have o0 := fun o => (obj_cells (R3.ho.alloc o)).1
    have o1 := fun o => (obj_cells (R3.ho.alloc o)).2.1
    have c0 := fun o => (noS_cells (R3.hr.alloc o)).1
    have c1 := fun o => (noS_cells (R3.hr.alloc o)).2.1
    have c2 := fun o => (noS_cells (R3.hr.alloc o)).2.2.1
    have c3 := fun o => (noS_cells (R3.hr.alloc o)).2.2.2.1
    have c4 := fun o => (noS_cells (R3.hr.alloc o)).2.2.2.2.1
    have f0 := fun o => (R3.hr.alloc o).frozen 0
    have f1 := fun o => (R3.hr.alloc o).frozen 1
    have f2 := fun o => (R3.hr.alloc o).frozen 2
    have f3 := fun o => (R3.hr.alloc o).frozen 3
    have f4 := fun o => (R3.hr.alloc o).frozen 4
    have s0 := fun o => (shc_cells (S3.alloc o)).1
    have s1 := fun o => (shc_cells (S3.alloc o)).2.1
    have s2 := fun o => (shc_cells (S3.alloc o)).2.2.1
    have s3 := fun o => (shc_cells (S3.alloc o)).2.2.2.1
    have s4 := fun o => (shc_cells (S3.alloc o)).2.2.2.2
    have R4 := fun o => R3.next (W' := w2.alloc o) ((Below.refl _ _).alloc (Nat.le_refl _) o)
    by_cases hE : E = 0
    · have qE : (E != 0) = false := by rw [hE]; rfl
      by_cases hX : X = a
      · have qX : (X.toList == a.toList) = true := by rw [hX]; simp
        by_cases hY : Y = s
        · have qY : (Y.toList == s.toList) = true := by rw [hY]; simp
          have HZ : Hid (mkE (fB s 4) (fB s 5) (fD s) (fB s 6) (fP s) = 0 ∧ mkN (fB s 4) (fB s 5) (fD s) (fB s 6) (fP s) = a ∧ mkD (fB s 4) (fB s 5) (fD s) (fB s 6) (fP s) = s) := ⟨hEe.out.trans hE, hXe.out.trans hX, hYe.out.trans hY⟩
          clear hE hX hY
          go_wp2_with fail
          exact ret_shard33 Tryz.results85 rfl rfl rfl (shc_put (R4 _).hr _ _ _ _ _) ⟨by first | rfl | (rw [if_pos HZ.out]; rfl), below_put5 (R4 _).bl (by omega) _ _ _ _ _⟩
        · have qY : (Y.toList == s.toList) = false := str_ne fun e => hY (bs_inj e)
          have HZ : Hid (¬ (mkE (fB s 4) (fB s 5) (fD s) (fB s 6) (fP s) = 0 ∧ mkN (fB s 4) (fB s 5) (fD s) (fB s 6) (fP s) = a ∧ mkD (fB s 4) (fB s 5) (fD s) (fB s 6) (fP s) = s)) := fun h => hY (hYe.out.symm.trans h.2.2)
          clear hE hX hY
          go_wp2_with fail
          exact ret_shard33 Tryz.results85 rfl rfl rfl (shc_put (R4 _).hr _ _ _ _ _) ⟨by first | rfl | (rw [if_neg HZ.out]; rfl), below_put5 (R4 _).bl (by omega) _ _ _ _ _⟩
      · have qX : (X.toList == a.toList) = false := str_ne fun e => hX (bs_inj e)
        have HZ : Hid (¬ (mkE (fB s 4) (fB s 5) (fD s) (fB s 6) (fP s) = 0 ∧ mkN (fB s 4) (fB s 5) (fD s) (fB s 6) (fP s) = a ∧ mkD (fB s 4) (fB s 5) (fD s) (fB s 6) (fP s) = s)) := fun h => hX (hXe.out.symm.trans h.2.1)
        clear hE hX
        go_wp2_with fail
        exact ret_shard33 Tryz.results85 rfl rfl rfl (shc_put (R4 _).hr _ _ _ _ _) ⟨by first | rfl | (rw [if_neg HZ.out]; rfl), below_put5 (R4 _).bl (by omega) _ _ _ _ _⟩
    · have qE : (E != 0) = true := by rw [bne_iff_ne]; exact hE
      have HZ : Hid (¬ (mkE (fB s 4) (fB s 5) (fD s) (fB s 6) (fP s) = 0 ∧ mkN (fB s 4) (fB s 5) (fD s) (fB s 6) (fP s) = a ∧ mkD (fB s 4) (fB s 5) (fD s) (fB s 6) (fP s) = s)) := fun h => hE (hEe.out.symm.trans h.1)
      clear hE
      go_wp2_with fail
      exact ret_shard33 Tryz.results85 rfl rfl rfl (shc_put (R4 _).hr _ _ _ _ _) ⟨by first | rfl | (rw [if_neg HZ.out]; rfl), below_put5 (R4 _).bl (by omega) _ _ _ _ _⟩
/-- THE DOCUMENT's READ. -/
theorem refRead_any (a s : ByteArray) (hs : s.size ≤ 1000000) (w : World) :
    Calls Tryz.prog 85 #[obv a s] w fun e w' => e = .returned (rdV a s) ∧ Below w.heap.size w w' := by
  by_cases h : 75 ≤ s.size
  · exact refRead_mid a s h hs w
  · have e : rdV a s = .tuple #[.agg noS, .int .i64 4] := by
      unfold rdV
      rw [if_neg]
      intro hk
      unfold rdOk at hk
      simp only [Bool.and_eq_true, decide_eq_true_eq] at hk
      exact h hk.1
    rw [e]
    exact refRead_short a s (by omega) w
end
end Go.Proofs.YtmpgfpmkmgebdaaGreatDoor.S
