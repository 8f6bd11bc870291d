/- What is handed in: acts, as they are read; what they weigh. -/
import Derived.Test.YtpeeelnkelnlkaaActs
import Derived.WalkKit
import Derived.ProofKit
import Derived.OpenShut
import Derived.Lib.SmallJoins
import Derived.Carry
import Derived.Deep.Slices
import Derived.SizedLaws
namespace Go.Proofs.Ytpeeelnkelnlkaa
open Go.ChangeShapes Go.WideShapes Go.ChangeAt Go.RowKit Go.Joins
theorem own : ownKnob Try.prog.godebug = none := by kernel_rfl
theorem laidOut : laidOutB Try.prog = true := by kernel_rfl
theorem cells3 : Try.prog.cellsOf 3 = 1 := by kernel_rfl
theorem cells5 : Try.prog.cellsOf 5 = 1 := by kernel_rfl
theorem cells9 : Try.prog.cellsOf 9 = 1 := by kernel_rfl
theorem cells28 : Try.prog.cellsOf 28 = 2 := by kernel_rfl
theorem cells32 : Try.prog.cellsOf 32 = 5 := by kernel_rfl
theorem cells39 : Try.prog.cellsOf 39 = 1 := by kernel_rfl
theorem cells41 : Try.prog.cellsOf 41 = 9 := by kernel_rfl
theorem bytes3 : Try.prog.bytesOf 3 = 8 := by kernel_rfl
theorem plain_of {W : World} {a : Addr} {v : Value} (h : W.cell? (a.add 0) = some v) : ∃ b o, a = ⟨b, o, none⟩ ∧ b < W.heap.size := by
  obtain ⟨b, o, s⟩ := a
  have hs : s = none := by simpa [Addr.add] using World.cell?_spot h
  subst hs
  exact ⟨b, o, rfl, World.block_lt_of_cell? (h := h)⟩
section
variable {H : Type} {enc : TypeId × Value → H} {W : World} {base : Nat} {sp : Nat → Bool} {hd : Bool}
/-- a list of numbers -/
theorem open_keep {fuel : Nat} {cs : List Value} {x : DataW H × List MemPlace} (h : DataW.trod enc Try.prog W base sp hd fuel 39 cs = some x) :
    ∃ v ks, cs = [v] ∧ RdI W v ks ∧ (∀ z ∈ ks, -9223372036854775808 ≤ z ∧ z ≤ 9223372036854775807) ∧ ks.length ≤ maxLen ∧ (0 < ks.length → ∃ n ∈ x.1.weights Try.prog 39, ks.length ≤ n) := by
  rcases open_ints Try.underlying39 Try.underlying3 cells3 h with ⟨rfl, hx⟩ | ⟨a, len, cap, zs, rfl, _, hl, hm, hz, hx, hcell, hwz⟩
  · exact ⟨_, [], rfl, .inl ⟨_, _, rfl, rfl⟩, fun z hz => (by cases hz), Nat.zero_le _, fun h => absurd h (Nat.lt_irrefl _)⟩
  · have hlen : len ≤ zs.length := by rw [hz]; split <;> omega
    have hlt : (zs.take len).length = len := by simp; omega
    refine ⟨_, zs.take len, rfl, ?_, fun z hz => bounds_i64 (hwz z (List.mem_of_mem_take hz)), by rw [hlt]; omega, fun _ => ?_⟩
    · by_cases h0 : len = 0
      · subst h0; exact .inl ⟨_, _, rfl, by simp⟩
      · obtain ⟨b, o, rfl, hb⟩ := plain_of (hcell 0 (by omega))
        refine .inr ⟨b, o, cap, by omega, by rw [hlt], hb, fun j z hj => ?_⟩
        have hj' : j < (zs.take len).length := (List.getElem?_eq_some_iff.1 hj).1
        have := hcell j (by omega)
        rw [add_plain] at this
        rw [this]
        rw [List.getElem?_take, if_pos (by omega)] at hj
        rw [List.getD_eq_getElem?_getD, hj]; rfl
    · rw [hx]
      refine ⟨(len + (zs.length - len)) * 8, ?_, by rw [hlt]; omega⟩
      simp only [DataW.weights, Try.underlying39, bytes3, lits, List.length_map, List.length_take, List.length_drop, List.mem_cons]
      left
      rw [Nat.min_eq_left hlen]
set_option maxRecDepth 100000 in
/-- an object -/
theorem open_ob {fuel : Nat} {cs : List Value} {x : DataW H × List MemPlace} (h : DataW.trod enc Try.prog W base sp hd fuel 28 cs = some x) :
    ∃ n d : ByteArray, cs = [.string n, .string d] ∧ n.size ∈ x.1.weights Try.prog 28 ∧ d.size ∈ x.1.weights Try.prog 28 := by
  obtain ⟨xs, k, _, rfl, hcl, hxl, hf⟩ := DataW.trod_struct Try.underlying28 h
  rw [cells28] at hcl
  match xs, hxl, cs, hcl with
  | [y0, y1], _, [v0, v1], _ =>
    have g0 := hf 0 _ rfl
    have g1 := hf 1 _ rfl
    simp [cells9] at g0 g1
    obtain ⟨n, e0, ey0, _⟩ := DataW.trod_string Try.underlying9 g0
    obtain ⟨d, e1, ey1, _⟩ := DataW.trod_string Try.underlying9 g1
    simp at e0 e1
    subst e0 e1
    refine ⟨n, d, rfl, ?_, ?_⟩
    · simp [DataW.weights, Try.underlying28, DataW.weightsEach, ey0, ey1]
    · simp [DataW.weights, Try.underlying28, DataW.weightsEach, ey0, ey1]
set_option maxRecDepth 100000 in
theorem open_fault {fuel : Nat} {cs : List Value} {x : DataW H × List MemPlace} (h : DataW.trod enc Try.prog W base sp hd fuel 32 cs = some x) :
    ∃ k t n a c : Int, cs = [.int .u8 k, .int .i64 t, .int .i64 n, .int .i64 a, .int .i64 c] ∧ 0 ≤ k ∧ k < 256 ∧ n < 9223372036854775808 ∧ a < 9223372036854775808 := by
  obtain ⟨xs, k, _, rfl, hcl, hxl, hf⟩ := DataW.trod_struct Try.underlying32 h
  rw [cells32] at hcl
  match xs, hxl, cs, hcl with
  | [y0, y1, y2, y3, y4], _, [v0, v1, v2, v3, v4], _ =>
    have g0 := hf 0 _ rfl
    have g1 := hf 1 _ rfl
    have g2 := hf 2 _ rfl
    have g3 := hf 3 _ rfl
    have g4 := hf 4 _ rfl
    simp [cells3, cells5] at g0 g1 g2 g3 g4
    obtain ⟨k0, e0, _, w0⟩ := DataW.trod_int Try.underlying5 g0
    obtain ⟨k1, e1, _, _⟩ := DataW.trod_int Try.underlying3 g1
    obtain ⟨k2, e2, _, w2⟩ := DataW.trod_int Try.underlying3 g2
    obtain ⟨k3, e3, _, w3⟩ := DataW.trod_int Try.underlying3 g3
    obtain ⟨k4, e4, _, _⟩ := DataW.trod_int Try.underlying3 g4
    simp at e0 e1 e2 e3 e4
    subst e0 e1 e2 e3 e4
    have := bounds_u8 w0
    have := bounds_i64 w2
    have := bounds_i64 w3
    exact ⟨k0, k1, k2, k3, k4, rfl, by omega, by omega, by omega, by omega⟩
set_option maxRecDepth 100000 in
theorem open_act {fuel : Nat} {cs : List Value} {x : DataW H × List MemPlace} (h : DataW.trod enc Try.prog W base sp hd fuel 41 cs = some x) (hw : ∀ n ∈ x.1.weights Try.prog 41, n ≤ reachBytes) :
    ∃ a : Ac, cs = acells a ∧ AcOk W a := by
  obtain ⟨xs, k, _, rfl, hcl, hxl, hf⟩ := DataW.trod_struct Try.underlying41 h
  rw [cells41] at hcl
  match xs, hxl, cs, hcl with
  | [y0, y1, y2, y3], _, [v0, v1, v2, v3, v4, v5, v6, v7, v8], _ =>
    have g0 := hf 0 _ rfl
    have g1 := hf 1 _ rfl
    have g2 := hf 2 _ rfl
    have g3 := hf 3 _ rfl
    simp [cells5, cells28, cells39, cells32] at g0 g1 g2 g3
    have hsub : ∀ n, (n ∈ y1.1.weights Try.prog 28 ∨ n ∈ y2.1.weights Try.prog 39) → n ≤ 140737488355328 := fun n hn => by
      have := hw n (by
        simp only [List.map_cons, List.map_nil, DataW.weights, Try.underlying41, DataW.weightsEach, List.mem_append]
        rcases hn with hn | hn
        · exact .inr (.inl hn)
        · exact .inr (.inr (.inl hn)))
      unfold reachBytes at this
      omega
    obtain ⟨k0, e0, _, w0⟩ := DataW.trod_int Try.underlying5 g0
    obtain ⟨nm, dt, e1, s1, s2⟩ := open_ob g1
    obtain ⟨kv, ks, e2, hk, hkb, hkm, hkw⟩ := open_keep g2
    obtain ⟨fk, ft, fn, fa, fc, e3, f1, f2, f3, f4⟩ := open_fault g3
    simp at e0 e1 e2 e3
    obtain ⟨rfl, rfl⟩ := e1
    subst e0 e2
    obtain ⟨rfl, rfl, rfl, rfl, rfl⟩ := e3
    have hb0 := bounds_u8 w0
    obtain ⟨kn, rfl⟩ := Int.eq_ofNat_of_zero_le hb0.1
    refine ⟨⟨kn, nm, dt, v3, ks, fk, ft, fn, fa, fc⟩, rfl, ⟨by show kn < 256; omega, hsub _ (.inl s1), hsub _ (.inl s2), hk, ?_, f1, f2, f3, f4⟩⟩
    by_cases h0 : 0 < ks.length
    · obtain ⟨n, hn, hle⟩ := hkw h0
      exact Nat.le_trans hle (hsub n (.inr hn))
    · show ks.length ≤ _; omega
set_option maxRecDepth 100000 in
theorem open_acts {b0 : Nat} {v : Value} {d : DataW H} {p : List MemPlace} (hv : Value.okWide Try.prog W .any b0 35 v) (h : DataW.Trod enc Try.prog W 0 (fun _ => true) true 35 v d p) (hw : ∀ n ∈ d.weights Try.prog 35, n ≤ reachBytes) : ∃ l, Acts W v l := by
  obtain ⟨a0, len, cap, rfl⟩ := okWide_slice Try.underlying35 hv
  obtain ⟨fuel, hf⟩ := h
  rcases Go.Deep.open_slice Try.underlying35 hf with ⟨hcs, _⟩ | ⟨a, len', cap', m, n, D, Pl, hcs, _, hl, hm, hmm, hx, he⟩
  · simp [Value.cells] at hcs
    obtain ⟨rfl, rfl, rfl⟩ := hcs
    exact ⟨[], .inl ⟨_, _, rfl, rfl⟩, fun x hx => by cases hx⟩
  · simp [Value.cells] at hcs
    obtain ⟨rfl, rfl, rfl⟩ := hcs
    have hlm : len ≤ m := by rw [hmm]; split <;> omega
    have hd : d = .slice ((List.range len).map D) ((List.range (m - len)).map fun j => D (len + j)) := congrArg Prod.fst hx
    have hwD : ∀ i, i < len → ∀ k ∈ (D i).weights Try.prog 41, k ≤ reachBytes := fun i hi k hk => hw k (by
      rw [hd]
      simp only [DataW.weights, Try.underlying35, List.mem_cons, List.mem_append]
      refine .inr (.inl ?_)
      have hall : ∀ (l : List (DataW H)) (y : DataW H), y ∈ l → ∀ k ∈ y.weights Try.prog 41, k ∈ DataW.weightsAll Try.prog 41 l := by
        intro l
        induction l with
        | nil => intro y hy; cases hy
        | cons z r ih =>
          intro y hy k hk
          simp only [DataW.weightsAll, List.mem_append]
          rcases List.mem_cons.1 hy with rfl | hy
          · exact .inl hk
          · exact .inr (ih y hy k hk)
      exact hall _ (D i) (List.mem_map.2 ⟨i, List.mem_range.2 hi, rfl⟩) k hk)
    have each : ∀ i, i < len → ∃ x : Ac, AcOk W x ∧ ∀ j u, (acells x)[j]? = some u → W.cell? ((a.add (i * 9)).add j) = some u := fun i hi => by
      obtain ⟨cs', h1, h2⟩ := he i (by omega)
      rw [cells41] at h1
      obtain ⟨_, hcl, hcell⟩ := World.cells?_some h1
      obtain ⟨x, rfl, hok⟩ := open_act h2 (hwD i hi)
      refine ⟨x, hok, fun j u hj => ?_⟩
      have hj' : j < 9 := by have := (List.getElem?_eq_some_iff.1 hj).1; omega
      rw [hcell j hj', hj]
    by_cases h0 : len = 0
    · subst h0
      exact ⟨[], .inl ⟨_, _, rfl, rfl⟩, fun x hx => by cases hx⟩
    · obtain ⟨b, o, rfl, hb⟩ : ∃ b o, a = ⟨b, o, none⟩ ∧ b < W.heap.size := by
        obtain ⟨x, _, hc⟩ := each 0 (by omega)
        have := hc 0 _ rfl
        rw [Go.Deep.add_add] at this
        exact plain_of (by simpa using this)
      haveI : Inhabited Ac := ⟨⟨0, ⟨#[]⟩, ⟨#[]⟩, .nilFunc, [], 0, 0, 0, 0, 0⟩⟩
      obtain ⟨f, hff⟩ := Go.Deep.choose_lt each
      have hlen : ((List.range len).map f).length = len := by simp
      have hget : ∀ j x, ((List.range len).map f)[j]? = some x → j < len ∧ x = f j := fun j x hj => by
        have hj' : j < len := by have := (List.getElem?_eq_some_iff.1 hj).1; simpa using this
        rw [List.getElem?_map, List.getElem?_range hj'] at hj
        exact ⟨hj', by simpa using hj.symm⟩
      refine ⟨(List.range len).map f, .inr ⟨b, o, cap, by rw [hlen], by rw [hlen]; unfold maxLen at hm; omega, hb, fun j x hj i u hu => ?_⟩, fun x hx => ?_⟩
      · obtain ⟨hj', rfl⟩ := hget j x hj
        have := (hff j hj').2 i u hu
        rw [add_plain, add_plain] at this
        exact this
      · obtain ⟨j, hj, rfl⟩ := List.mem_map.1 hx
        exact (hff j (List.mem_range.1 hj)).1
end
end Go.Proofs.Ytpeeelnkelnlkaa
