/- Results that lie in memory: a place, a state, alone or with an error beside; whole blocks written over. -/
import Derived.Test.YtknddbmnciodaaaGreatRd
import Derived.Laws.Rows
import Derived.Laws.ResultCell
import Derived.Deep.MidRow
import Derived.WalkKit
namespace Go.Proofs.YtknddbmnciodaaaGreat
open Go.RowKit
open Ix
set_option linter.unusedVariables false
theorem info37 : (Tryz.prog.info? 24).map (·.size) = some 3 := by kernel_rfl
theorem info28 : (Tryz.prog.info? 35).map (·.size) = some 6 := by kernel_rfl
set_option maxRecDepth 20000 in
theorem ret_row {fn : Func} {a : Act} {W : World} {b : Nat} {cs : Array Value} {ty t : TypeId} {p : Tmp} {fs : Array Field} {Q : Ending → World → Prop}
    (hf : fn.results = #[.cell p ty]) (hp : a.tmps.getD p undef = .pointer (some ⟨b, 0, none⟩)) (hd : a.defers = []) (hc : Has W b cs t)
    (hu : Tryz.prog.underlying ty = some (.struct fs)) (hi : (Tryz.prog.info? ty).map (·.size) = some cs.size) (hQ : Q (.returned (.agg cs)) W) : bodyPost Tryz.prog fn Q Exit.ret a W :=
  bodyPost_ret (results_cell_row hf _ _ b t cs (0, 0) _ hp hc hu rfl hi) hd hQ
set_option maxRecDepth 20000 in
theorem ret_cell {fn : Func} {a : Act} {W : World} {b : Nat} {cs : Array Value} {ty t : TypeId} {p u : Tmp} {v : Value} {d : TypeDesc} {Q : Ending → World → Prop}
    (hf : fn.results = #[.cell p ty, .tmp u]) (hp : a.tmps.getD p undef = .pointer (some ⟨b, 0, none⟩)) (hv : a.tmps.getD u undef = v) (hd : a.defers = []) (hc : Has W b cs t)
    (hu : Tryz.prog.underlying ty = some d) (hr : d.isRow = true) (hi : (Tryz.prog.info? ty).map (·.size) = some cs.size) (hQ : Q (.returned (.tuple #[.agg cs, v])) W) : bodyPost Tryz.prog fn Q Exit.ret a W := by
  refine bodyPost_ret (v := .tuple #[.agg cs, v]) ?_ hd hQ
  rw [results_cell_tmp hf, hp, hv]
  have hg : W.rangeAt b 0 cs.toList := fun j v hv => by
    rw [Nat.zero_add, hc.cell]; simpa using hv
  have hld := run_loadVar_mid (P := Tryz.prog) W b 0 ty cs.toList d hg hu hr (by rw [Array.length_toList]; exact hi)
  show ((Sem.run Tryz.prog (loadVar ty ⟨b, 0, none⟩) W).andThen _) = _
  rw [hld]
  rfl
theorem ret_place {fn : Func} {a : Act} {W : World} {b : Nat} {x : Pl} {t : TypeId} {p u : Tmp} {v : Value} {Q : Ending → World → Prop}
    (hf : fn.results = #[.cell p 24, .tmp u]) (hp : a.tmps.getD p undef = .pointer (some ⟨b, 0, none⟩)) (hv : a.tmps.getD u undef = v) (hd : a.defers = []) (hc : Has W b (pl3 x).toArray t)
    (hQ : Q (.returned (.tuple #[.agg (pl3 x).toArray, v])) W) : bodyPost Tryz.prog fn Q Exit.ret a W :=
  ret_cell hf hp hv hd hc Tryz.underlying24 rfl info37 hQ
/-- a state's value -/
def stV (s : St) (a0 a1 a2 : Option Addr) (c0 c1 c2 : Nat) : Array Value := #[.int .i64 s.k, .int .i64 s.n, .int .i64 s.nx, .slice a0 s.sn.length c0, .slice a1 s.C.length c1, .slice a2 s.P.length c2]
def stZ : Array Value := #[.int .i64 0, .int .i64 0, .int .i64 0, .slice none 0 0, .slice none 0 0, .slice none 0 0]
theorem ret_state {fn : Func} {a : Act} {W : World} {b : Nat} {cs : Array Value} {t : TypeId} {p u : Tmp} {v : Value} {Q : Ending → World → Prop}
    (hf : fn.results = #[.cell p 35, .tmp u]) (hp : a.tmps.getD p undef = .pointer (some ⟨b, 0, none⟩)) (hv : a.tmps.getD u undef = v) (hd : a.defers = []) (hc : Has W b cs t) (hs : cs.size = 6)
    (hQ : Q (.returned (.tuple #[.agg cs, v])) W) : bodyPost Tryz.prog fn Q Exit.ret a W :=
  ret_cell hf hp hv hd hc Tryz.underlying35 rfl (by rw [info28, hs]) hQ
theorem ret_state1 {fn : Func} {a : Act} {W : World} {b : Nat} {cs : Array Value} {t : TypeId} {p : Tmp} {Q : Ending → World → Prop}
    (hf : fn.results = #[.cell p 35]) (hp : a.tmps.getD p undef = .pointer (some ⟨b, 0, none⟩)) (hd : a.defers = []) (hc : Has W b cs t) (hs : cs.size = 6)
    (hQ : Q (.returned (.agg cs)) W) : bodyPost Tryz.prog fn Q Exit.ret a W :=
  ret_row hf hp hd hc Tryz.underlying35 (by rw [info28, hs]) hQ
/-- three cells written over -/
theorem put3 {W : World} {b : Nat} {u0 u1 u2 : Value} {t : TypeId} (h : Has W b #[u0, u1, u2] t) (v0 v1 v2 : Value) : Has (((W.setCell ⟨b, 0, none⟩ v0).setCell ⟨b, 1, none⟩ v1).setCell ⟨b, 2, none⟩ v2) b #[v0, v1, v2] t := by
  have := ((h.set 0 v0).set 1 v1).set 2 v2
  simpa using this
theorem put6 {W : World} {b : Nat} {u0 u1 u2 u3 u4 u5 : Value} {t : TypeId} (h : Has W b #[u0, u1, u2, u3, u4, u5] t) (v0 v1 v2 v3 v4 v5 : Value) :
    Has ((((((W.setCell ⟨b, 0, none⟩ v0).setCell ⟨b, 1, none⟩ v1).setCell ⟨b, 2, none⟩ v2).setCell ⟨b, 3, none⟩ v3).setCell ⟨b, 4, none⟩ v4).setCell ⟨b, 5, none⟩ v5) b #[v0, v1, v2, v3, v4, v5] t := by
  have := (((((h.set 0 v0).set 1 v1).set 2 v2).set 3 v3).set 4 v4).set 5 v5
  simpa using this
theorem below_set {B b o : Nat} {a w : World} (h : Below B a w) (hb : B ≤ b) (v : Value) : Below B a (w.setCell ⟨b, o, none⟩ v) := h.setCell hb v
theorem below_put3 {B b : Nat} {a w : World} (h : Below B a w) (hb : B ≤ b) (v0 v1 v2 : Value) : Below B a (((w.setCell ⟨b, 0, none⟩ v0).setCell ⟨b, 1, none⟩ v1).setCell ⟨b, 2, none⟩ v2) :=
  below_set (below_set (below_set h hb _) hb _) hb _
theorem below_put6 {B b : Nat} {a w : World} (h : Below B a w) (hb : B ≤ b) (v0 v1 v2 v3 v4 v5 : Value) : Below B a ((((((w.setCell ⟨b, 0, none⟩ v0).setCell ⟨b, 1, none⟩ v1).setCell ⟨b, 2, none⟩ v2).setCell ⟨b, 3, none⟩ v3).setCell ⟨b, 4, none⟩ v4).setCell ⟨b, 5, none⟩ v5) :=
  below_set (below_set (below_set (below_set (below_set (below_set h hb _) hb _) hb _) hb _) hb _) hb _
end Go.Proofs.YtknddbmnciodaaaGreat

