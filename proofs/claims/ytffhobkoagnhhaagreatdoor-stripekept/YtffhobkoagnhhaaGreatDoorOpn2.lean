/- Stripe's laws: what StripeKept and StripeWorse share: what is handed in; a world whose stores are known. -/
import Derived.Test.YtffhobkoagnhhaaGreatDoorOpn
import Derived.Test.YtffhobkoagnhhaaGreatDoorM6
import Derived.Deep.Slices
import Derived.Deep.Grids
import Derived.SizedLaws
namespace Go.Proofs.YtffhobkoagnhhaaGreatDoor
open Go.RowKit Go.Maps
open W
set_option linter.unusedVariables false
variable {w0 w w' : World} {b : Nat} {V V' : Wd} {T : Nat → Prop} {K N : Int} {bl : List Nat}
/-- a list of bools that can be read -/
def RdB (w : World) (v : Value) (l : List Bool) : Prop := (∃ A c, v = .slice A 0 c ∧ l = []) ∨ ∃ g o cap, 0 < l.length ∧ v = .slice (some ⟨g, o, none⟩) l.length cap ∧ g < w.heap.size ∧ ∀ (j : Nat) (z : Bool), l[j]? = some z → w.cell? ⟨g, o + j, none⟩ = some (.bool z)
theorem RdB.form {v : Value} {l : List Bool} (h : RdB w v l) : ∃ a c, v = .slice a l.length c := by
  rcases h with ⟨A, c, rfl, rfl⟩ | ⟨g, o, cap, _, rfl, _, _⟩
  · exact ⟨_, _, rfl⟩
  · exact ⟨_, _, rfl⟩
/-- a fault -/
structure Flt where
  k : Int
  t : Int
  n : Int
  a : Int
  c : Int
def fcells (x : Flt) : List Value := [.int .u8 x.k, .int .i64 x.t, .int .i64 x.n, .int .i64 x.a, .int .i64 x.c]
def FltOk (x : Flt) : Prop := (0 ≤ x.k ∧ x.k < 256) ∧ x.n < 9223372036854775808 ∧ x.a < 9223372036854775808
/-- a list of faults that can be read -/
def RdF (w : World) (v : Value) (l : List Flt) : Prop := ((∃ A c, v = .slice A 0 c ∧ l = []) ∨ ∃ g o cap, 0 < l.length ∧ v = .slice (some ⟨g, o, none⟩) l.length cap ∧ g < w.heap.size ∧ ∀ (j : Nat) (x : Flt), l[j]? = some x → ∀ (i : Nat) (u : Value), (fcells x)[i]? = some u → w.cell? ⟨g, o + j * 5 + i, none⟩ = some u) ∧ ∀ x ∈ l, FltOk x
theorem RdF.form {v : Value} {l : List Flt} (h : RdF w v l) : ∃ a c, v = .slice a l.length c := by
  rcases h.1 with ⟨A, c, rfl, rfl⟩ | ⟨g, o, cap, _, rfl, _, _⟩
  · exact ⟨_, _, rfl⟩
  · exact ⟨_, _, rfl⟩
theorem writeX (h : WT w0 w b V T) (hl : H.Lay w0) {M : Nat} (hok : Ok M V.l.length V) (hM : M + 300 ≤ 900000) (hbl : ∀ x ∈ bl, x < 256) {x : ByteArray} (hx : C.ofBs bl = x) (Q : Ending → World → Prop)
    (hq : ∀ w', WT w0 w' b (wrG V K N bl).2 T → Kpt T w w' → Ok (M + 40) V.l.length (wrG V K N bl).2 → Q (.returned (.tuple #[.string (wrG V K N bl).1.1, .int .i64 (wrG V K N bl).1.2])) w') : Calls Tryz.prog 10 #[.pointer (some ⟨b, 0, none⟩), .agg #[.int .i64 K, .int .i64 N], .string x] w Q := by
  have := write_any h hl hok hM K N bl hbl Q hq
  rw [hx] at this
  exact this
theorem wrG_bad (h : C.Mx.mayC K N = false) : wrG V K N bl = ((⟨#[]⟩, 1), V) := by
  have hF : fitE V K N = 1 := by unfold fitE; rw [if_neg (fun e => by rw [h] at e; exact absurd e.1 (by decide))]
  unfold wrG
  rw [hF, if_pos (by decide)]
/-- a world of n stores, of each of which P holds -/
structure WI (n : Nat) (P : Nat → St → Prop) (V : Wd) : Prop where
  lit : Lit V
  len : V.l.length = n
  st : ∀ (m : Nat) (x : Kp), V.l[m]? = some x → P m x.st
  calls : V.calls ≤ 100
  left : V.left = 0
theorem WI.all {n : Nat} {P : Nat → St → Prop} (h : WI n P V) {R : St → Prop} (hP : ∀ m s, m < n → P m s → R s) : ∀ x ∈ V.l, R x.st := fun x hx => by
  obtain ⟨m, hm, e⟩ := List.getElem_of_mem hx
  exact hP m x.st (by rw [← h.len]; exact hm) (h.st m x (List.getElem?_eq_some_iff.2 ⟨hm, e⟩))
theorem WI.ok {n : Nat} {P : Nat → St → Prop} (h : WI n P V) (hP : ∀ m s, m < n → P m s → Fit 100 s) : Ok 100 V.l.length V := ⟨rfl, h.all hP, h.calls, by rw [h.left]; decide⟩
theorem WI.fresh {l : List Kp} {n : Nat} (hl : l.length = n) (hx : ∀ x ∈ l, x.st = st0 ∧ x.sus = false) : WI n (fun _ s => s = st0) (newW l) := ⟨⟨rfl, rfl⟩, hl, fun m x h => (hx x (List.mem_of_getElem? h)).1, Nat.zero_le _, rfl⟩
/-- the blob is written for the first time -/
theorem WI.write {n : Nat} (h : WI n (fun _ s => s = st0) V) (hc : V.calls = 0) (hn : n ≤ 12) (hm : C.Mx.mayC K N = true) (hN : N = (n : Int)) (hb : bl.length ≤ 32768) : ∃ V', wrG V K N bl = ((dig bl, 0), V') ∧ WI n (fun m s => s = held K N bl m) V' ∧ V'.calls = 3 * n := by
  obtain ⟨l', e1, e2, e3⟩ := write_fresh h.lit hm (by rw [h.len]; exact hN) hb h.st
  refine ⟨_, e1, ⟨h.lit, by show l'.length = n; rw [e2]; exact h.len, fun m x hx => ?_, ?_, h.left⟩, ?_⟩
  · have hml : m < V.l.length := by rw [← e2]; exact (List.getElem?_eq_some_iff.1 hx).1
    have := e3 m _ (List.getElem?_eq_getElem hml)
    rw [show l'[m]? = some x from hx] at this
    cases this
    rfl
  · show V.calls + 3 * V.l.length ≤ 100
    rw [h.len]; omega
  · show V.calls + 3 * V.l.length = _
    rw [h.len]; omega
/-- and once more -/
theorem WI.again {n : Nat} (h : WI n (fun m s => s = held K N bl m) V) (hc : V.calls = 3 * n) (hn : n ≤ 12) (hm : C.Mx.mayC K N = true) (hN : N = (n : Int)) (hb : bl.length ≤ 32768) : ∃ V', wrG V K N bl = ((dig bl, 0), V') ∧ WI n (fun m s => s = held K N bl m) V' ∧ V'.calls = 5 * n := by
  obtain ⟨l', e1, e2, e3⟩ := write_again h.lit hm (by rw [h.len]; exact hN) hb h.st
  refine ⟨_, e1, ⟨h.lit, by show l'.length = n; rw [e2]; exact h.len, fun m x hx => ?_, ?_, h.left⟩, ?_⟩
  · have hml : m < V.l.length := by rw [← e2]; exact (List.getElem?_eq_some_iff.1 hx).1
    have hx0 := List.getElem?_eq_getElem hml
    have := e3 m _ hx0
    rw [show l'[m]? = some x from hx] at this
    cases this
    exact h.st m _ hx0
  · show V.calls + 2 * V.l.length ≤ 100
    rw [h.len]; omega
  · show V.calls + 2 * V.l.length = _
    rw [h.len]; omega
theorem crashW_at {sv : List Sv} {m : Nat} {y : Kp} (h : (crashW V sv).l[m]? = some y) : ∃ x, V.l[m]? = some x ∧ y.st = crashS x.st (keepOf sv m) := by
  have h' : (V.l.mapIdx (crashK sv))[m]? = some y := h
  rw [List.getElem?_mapIdx] at h'
  cases hx : V.l[m]? with
  | none => rw [hx] at h'; simp at h'
  | some x =>
    rw [hx] at h'
    simp only [Option.map_some, Option.some.injEq] at h'
    subst h'
    exact ⟨x, rfl, rfl⟩
theorem crashW_len (sv : List Sv) : (crashW V sv).l.length = V.l.length := by
  show (V.l.mapIdx (crashK sv)).length = _
  rw [List.length_mapIdx]
theorem bl_of (s : ByteArray) : (∀ x ∈ H.bs s, x < 256) ∧ C.ofBs (H.bs s) = s ∧ (H.bs s).length = s.size := ⟨H.bs_lt s, H.ofBs_bs s, H.bs_length s⟩
theorem goneN_min (lose : List Bool) (n k : Nat) (hk : k = lose.length ∧ k ≤ n ∨ k = n) : goneN lose k = goneN lose n := by
  rcases hk with ⟨h1, h2⟩ | h
  · unfold goneN
    rw [List.take_of_length_le (by omega), List.take_of_length_le (by omega)]
  · rw [h]
theorem goneN_le (lose : List Bool) (k : Nat) : goneN lose k ≤ k := by
  unfold goneN
  refine Nat.le_trans List.countP_le_length ?_
  rw [List.length_take]
  exact Nat.min_le_left _ _
theorem mod40 (z : Int) : 0 ≤ wrap64 ((IntKind.u64.wrap z).tmod 40) ∧ wrap64 ((IntKind.u64.wrap z).tmod 40) < 40 := by
  rw [IntKind.wrap_u64, Int.tmod_eq_emod_of_nonneg (Int.emod_nonneg _ (by decide))]
  unfold wrap64
  omega
/-- a store is wiped -/
theorem wipe_is {i : Nat} {x : Kp} (hx : V.l[i]? = some x) : strikeW V 1 (i : Int) 0 0 0 = (0, { V with l := V.l.set i { x with st := { x.st with seen := [], writes := [], live := false }, sus := x.sus || true } }) := by
  have hi := (List.getElem?_eq_some_iff.1 hx).1
  unfold strikeW
  rw [if_pos (by omega), Int.toNat_natCast, hx]
  rfl
/-- those lost so far -/
def lostS (K N : Int) (bl : List Nat) (lose : List Bool) (k m : Nat) (s : St) : Prop := s = if m < k ∧ lose.getD m false = true then st0 else held K N bl m
theorem WI.wipe {n k : Nat} {lose : List Bool} (h : WI n (lostS K N bl lose k) V) (hk : k < n) (hb : lose.getD k false = true) : ∃ V', strikeW V 1 (k : Int) 0 0 0 = (0, V') ∧ WI n (lostS K N bl lose (k + 1)) V' := by
  obtain ⟨x, hx⟩ : ∃ x, V.l[k]? = some x := ⟨_, List.getElem?_eq_getElem (by rw [h.len]; exact hk)⟩
  have hx0 : x.st = held K N bl k := by
    have := h.st k x hx
    unfold lostS at this
    rw [if_neg (fun e => by omega)] at this
    exact this
  refine ⟨_, wipe_is hx, ⟨h.lit, by show (V.l.set _ _).length = n; rw [List.length_set]; exact h.len, fun m y hy => ?_, h.calls, h.left⟩⟩
  have hy' : (V.l.set k _)[m]? = some y := hy
  unfold lostS
  by_cases e : k = m
  · subst e
    rw [List.getElem?_set_self (by rw [h.len]; exact hk)] at hy'
    cases hy'
    rw [if_pos ⟨by omega, hb⟩]
    show ({ x.st with seen := [], writes := [], live := false } : St) = st0
    rw [hx0]
    rfl
  · rw [List.getElem?_set_ne e] at hy'
    have := h.st m y hy'
    unfold lostS at this
    rw [this]
    by_cases c1 : m < k ∧ lose.getD m false = true
    · rw [if_pos c1, if_pos ⟨by omega, c1.2⟩]
    · rw [if_neg c1, if_neg (fun c2 => c1 ⟨by omega, c2.2⟩)]
theorem WI.spare {n k : Nat} {lose : List Bool} (h : WI n (lostS K N bl lose k) V) (hb : lose.getD k false = false) : WI n (lostS K N bl lose (k + 1)) V := ⟨h.lit, h.len, fun m y hy => by
  have := h.st m y hy
  unfold lostS at this ⊢
  rw [this]
  by_cases c1 : m < k ∧ lose.getD m false = true
  · rw [if_pos c1, if_pos ⟨by omega, c1.2⟩]
  · rw [if_neg c1, if_neg (fun c2 => by
      by_cases e : m = k
      · rw [e, hb] at c2; exact absurd c2.2 (by decide)
      · exact c1 ⟨by omega, c2.2⟩)], h.calls, h.left⟩
theorem fit_st : Fit 100 st0 := fit_one rfl (by simp [st0]) (fun p hp => by cases hp) (fun p hp => by cases hp) (fun k hk => by cases hk) (fun k hk => by cases hk)
theorem lost_fit (hm : C.Mx.mayC K N = true) (hb : bl.length ≤ 32768) {n : Nat} (hN : N = (n : Int)) {lose : List Bool} {k : Nat} : ∀ m s, m < n → lostS K N bl lose k m s → Fit 100 s := fun m s hmn h => by
  unfold lostS at h
  rw [h]
  split
  · exact fit_st
  · exact (Left.held hm hb (by omega)).fit
end Go.Proofs.YtffhobkoagnhhaaGreatDoor
/- What StripeKept and StripeWorse are handed in: codes, faults, what survives, bools. -/
namespace Go.Proofs.YtffhobkoagnhhaaGreatDoor
open Go.ChangeShapes Go.WideShapes Go.ChangeAt Go.RowKit Go.Joins
open W
theorem cells3 : Tryz.prog.cellsOf 3 = 1 := by kernel_rfl
theorem cells4 : Tryz.prog.cellsOf 4 = 1 := by kernel_rfl
theorem cells5 : Tryz.prog.cellsOf 5 = 1 := by kernel_rfl
theorem cells25 : Tryz.prog.cellsOf 25 = 2 := by kernel_rfl
theorem cells47 : Tryz.prog.cellsOf 47 = 5 := by kernel_rfl
theorem cells82 : Tryz.prog.cellsOf 82 = 1 := by kernel_rfl
theorem cells99 : Tryz.prog.cellsOf 99 = 1 := by kernel_rfl
theorem bytes3 : Tryz.prog.bytesOf 3 = 8 := by kernel_rfl
theorem plain_of {W : World} {a : Addr} {v : Value} (h : W.cell? (a.add 0) = some v) : ∃ b o, a = ⟨b, o, none⟩ ∧ b < W.heap.size := by
  obtain ⟨b, o, s⟩ := a
  have hs : s = none := by simpa [Addr.add] using World.cell?_spot h
  subst hs
  exact ⟨b, o, rfl, World.block_lt_of_cell? (h := h)⟩
section
variable {H : Type} {enc : TypeId × Value → H} {W : World} {base : Nat} {sp : Nat → Bool} {hd : Bool}
/-- a list of numbers -/
theorem open_keep {fuel : Nat} {cs : List Value} {x : DataW H × List MemPlace} (h : DataW.trod enc Tryz.prog W base sp hd fuel 82 cs = some x) :
    ∃ v ks, cs = [v] ∧ RdI W v ks ∧ (∀ z ∈ ks, -9223372036854775808 ≤ z ∧ z ≤ 9223372036854775807) ∧ ks.length ≤ maxLen ∧ (0 < ks.length → ∃ n ∈ x.1.weights Tryz.prog 82, ks.length ≤ n) := by
  rcases open_ints Tryz.underlying82 Tryz.underlying3 cells3 h with ⟨rfl, hx⟩ | ⟨a, len, cap, zs, rfl, _, hl, hm, hz, hx, hcell, hwz⟩
  · exact ⟨_, [], rfl, .inl ⟨_, _, rfl, rfl⟩, fun z hz => (by cases hz), Nat.zero_le _, fun h => absurd h (Nat.lt_irrefl _)⟩
  · have hlen : len ≤ zs.length := by rw [hz]; split <;> omega
    have hlt : (zs.take len).length = len := by simp; omega
    refine ⟨_, zs.take len, rfl, ?_, fun z hz => bounds_i64 (hwz z (List.mem_of_mem_take hz)), by rw [hlt]; omega, fun _ => ?_⟩
    · by_cases h0 : len = 0
      · subst h0; exact .inl ⟨_, _, rfl, by simp⟩
      · obtain ⟨b, o, rfl, hb⟩ := plain_of (hcell 0 (by omega))
        refine .inr ⟨b, o, cap, by omega, by rw [hlt], hb, fun j z hj => ?_⟩
        have hj' : j < (zs.take len).length := (List.getElem?_eq_some_iff.1 hj).1
        have := hcell j (by omega)
        rw [add_plain] at this
        rw [this]
        rw [List.getElem?_take, if_pos (by omega)] at hj
        rw [List.getD_eq_getElem?_getD, hj]; rfl
    · rw [hx]
      refine ⟨(len + (zs.length - len)) * 8, ?_, by rw [hlt]; omega⟩
      simp only [DataW.weights, Tryz.underlying82, bytes3, lits, List.length_map, List.length_take, List.length_drop, List.mem_cons]
      left
      rw [Nat.min_eq_left hlen]
set_option maxRecDepth 100000 in
theorem open_fault {fuel : Nat} {cs : List Value} {x : DataW H × List MemPlace} (h : DataW.trod enc Tryz.prog W base sp hd fuel 47 cs = some x) :
    ∃ k t n a c : Int, cs = [.int .u8 k, .int .i64 t, .int .i64 n, .int .i64 a, .int .i64 c] ∧ 0 ≤ k ∧ k < 256 ∧ n < 9223372036854775808 ∧ a < 9223372036854775808 := by
  obtain ⟨xs, k, _, rfl, hcl, hxl, hf⟩ := DataW.trod_struct Tryz.underlying47 h
  rw [cells47] at hcl
  match xs, hxl, cs, hcl with
  | [y0, y1, y2, y3, y4], _, [v0, v1, v2, v3, v4], _ =>
    have g0 := hf 0 _ rfl
    have g1 := hf 1 _ rfl
    have g2 := hf 2 _ rfl
    have g3 := hf 3 _ rfl
    have g4 := hf 4 _ rfl
    simp [cells3, cells5] at g0 g1 g2 g3 g4
    obtain ⟨k0, e0, _, w0⟩ := DataW.trod_int Tryz.underlying5 g0
    obtain ⟨k1, e1, _, _⟩ := DataW.trod_int Tryz.underlying3 g1
    obtain ⟨k2, e2, _, w2⟩ := DataW.trod_int Tryz.underlying3 g2
    obtain ⟨k3, e3, _, w3⟩ := DataW.trod_int Tryz.underlying3 g3
    obtain ⟨k4, e4, _, _⟩ := DataW.trod_int Tryz.underlying3 g4
    simp at e0 e1 e2 e3 e4
    subst e0 e1 e2 e3 e4
    have := bounds_u8 w0
    have := bounds_i64 w2
    have := bounds_i64 w3
    exact ⟨k0, k1, k2, k3, k4, rfl, by omega, by omega, by omega, by omega⟩
/-- all that lies in a list weighs no more than the list's bound -/
theorem weightsAll_mem {t : TypeId} : ∀ (l : List (DataW H)) (y : DataW H), y ∈ l → ∀ k ∈ y.weights Tryz.prog t, k ∈ DataW.weightsAll Tryz.prog t l := by
  intro l
  induction l with
  | nil => intro y hy; cases hy
  | cons z r ih =>
    intro y hy k hk
    simp only [DataW.weightsAll, List.mem_append]
    rcases List.mem_cons.1 hy with rfl | hy
    · exact .inl hk
    · exact .inr (ih y hy k hk)
set_option maxRecDepth 100000 in
theorem open_surv {fuel : Nat} {cs : List Value} {x : DataW H × List MemPlace} (h : DataW.trod enc Tryz.prog W base sp hd fuel 99 cs = some x) (hw : ∀ n ∈ x.1.weights Tryz.prog 99, n ≤ reachBytes) :
    ∃ a : Sv, cs = [a.kv] ∧ RdI W a.kv a.ks ∧ a.ks.length ≤ 140737488355328 := by
  obtain ⟨xs, k, _, rfl, hcl, hxl, hf⟩ := DataW.trod_struct Tryz.underlying99 h
  rw [cells99] at hcl
  match xs, hxl, cs, hcl with
  | [y0], _, [v0], _ =>
    have g0 := hf 0 _ rfl
    simp [cells82] at g0
    obtain ⟨kv, ks, e2, hk, hkb, hkm, hkw⟩ := open_keep g0
    simp at e2
    subst e2
    refine ⟨⟨v0, ks⟩, rfl, hk, ?_⟩
    by_cases h0 : 0 < ks.length
    · obtain ⟨n, hn, hle⟩ := hkw h0
      have := hw n (by simp only [List.map_cons, List.map_nil, DataW.weights, Tryz.underlying99, DataW.weightsEach, List.mem_append]; exact .inl hn)
      unfold reachBytes at this
      show ks.length ≤ _
      omega
    · show ks.length ≤ _; omega
set_option maxRecDepth 100000 in
theorem open_survs {fuel : Nat} {cs : List Value} {x : DataW H × List MemPlace} (h : DataW.trod enc Tryz.prog W base sp hd fuel 48 cs = some x) (hw : ∀ n ∈ x.1.weights Tryz.prog 48, n ≤ reachBytes) :
    ∃ v l, cs = [v] ∧ RdS W v l ∧ l.length ≤ 9223372036854775807 := by
  rcases Go.Deep.open_slice Tryz.underlying48 h with ⟨hcs, _⟩ | ⟨a, len, cap, m, n, D, Pl, hcs, _, hl, hm, hmm, hx, he⟩
  · exact ⟨_, [], hcs, ⟨.inl ⟨_, _, rfl, rfl⟩, fun x hx => by cases hx⟩, by simp⟩
  · have hlm : len ≤ m := by rw [hmm]; split <;> omega
    have hd' : x.1 = .slice ((List.range len).map D) ((List.range (m - len)).map fun j => D (len + j)) := by rw [hx]
    have hwD : ∀ i, i < len → ∀ k ∈ (D i).weights Tryz.prog 99, k ≤ reachBytes := fun i hi k hk => hw k (by
      rw [hd']
      simp only [DataW.weights, Tryz.underlying48, List.mem_cons, List.mem_append]
      exact .inr (.inl (weightsAll_mem _ (D i) (List.mem_map.2 ⟨i, List.mem_range.2 hi, rfl⟩) k hk)))
    have each : ∀ i, i < len → ∃ x : Sv, (RdI W x.kv x.ks ∧ x.ks.length ≤ 140737488355328) ∧ W.cell? (a.add i) = some x.kv := fun i hi => by
      obtain ⟨cs', h1, h2⟩ := he i (by omega)
      rw [cells99] at h1
      obtain ⟨_, hcl, hcell⟩ := World.cells?_some h1
      obtain ⟨x, rfl, hok⟩ := open_surv h2 (hwD i hi)
      refine ⟨x, hok, ?_⟩
      have := hcell 0 (by omega)
      simpa [Addr.add] using this
    by_cases h0 : len = 0
    · subst h0
      exact ⟨_, [], hcs, ⟨.inl ⟨_, _, rfl, rfl⟩, fun x hx => by cases hx⟩, by simp⟩
    · obtain ⟨b, o, rfl, hb⟩ : ∃ b o, a = ⟨b, o, none⟩ ∧ b < W.heap.size := by
        obtain ⟨x, _, hc⟩ := each 0 (by omega)
        exact plain_of hc
      haveI : Inhabited Sv := ⟨⟨.nilFunc, []⟩⟩
      obtain ⟨f, hff⟩ := Go.Deep.choose_lt each
      have hlen : ((List.range len).map f).length = len := by simp
      have hget : ∀ j x, ((List.range len).map f)[j]? = some x → j < len ∧ x = f j := fun j x hj => by
        have hj' : j < len := by have := (List.getElem?_eq_some_iff.1 hj).1; simpa using this
        rw [List.getElem?_map, List.getElem?_range hj'] at hj
        exact ⟨hj', by simpa using hj.symm⟩
      refine ⟨_, (List.range len).map f, hcs, ⟨.inr ⟨b, o, cap, by rw [hlen]; omega, by rw [hlen], hb, fun j x hj => ?_⟩, fun x hx => ?_⟩, by rw [hlen]; unfold maxLen at hm; omega⟩
      · obtain ⟨hj', rfl⟩ := hget j x hj
        have := (hff j hj').2
        rw [add_plain] at this
        exact this
      · obtain ⟨j, hj, rfl⟩ := List.mem_map.1 hx
        exact (hff j (List.mem_range.1 hj)).1
set_option maxRecDepth 100000 in
theorem open_survsv {b0 : Nat} {v : Value} {d : DataW H} {p : List MemPlace} (hv : Value.okWide Tryz.prog W .any b0 48 v) (h : DataW.Trod enc Tryz.prog W 0 (fun _ => true) true 48 v d p) (hw : ∀ n ∈ d.weights Tryz.prog 48, n ≤ reachBytes) : ∃ l, RdS W v l ∧ l.length ≤ 9223372036854775807 := by
  obtain ⟨a0, len, cap, rfl⟩ := okWide_slice Tryz.underlying48 hv
  obtain ⟨fuel, hf⟩ := h
  obtain ⟨v, l, e, h1, h2⟩ := open_survs (x := (d, p)) hf hw
  simp [Value.cells] at e
  subst e
  exact ⟨l, h1, h2⟩
set_option maxRecDepth 100000 in
theorem open_faults {b0 : Nat} {v : Value} {d : DataW H} {p : List MemPlace} (hv : Value.okWide Tryz.prog W .any b0 60 v) (h : DataW.Trod enc Tryz.prog W 0 (fun _ => true) true 60 v d p) : ∃ l, RdF W v l := by
  obtain ⟨a0, len, cap, rfl⟩ := okWide_slice Tryz.underlying60 hv
  obtain ⟨fuel, hf⟩ := h
  rcases Go.Deep.open_slice Tryz.underlying60 hf with ⟨hcs, _⟩ | ⟨a, len', cap', m, n, D, Pl, hcs, _, hl, hm, hmm, hx, he⟩
  · simp [Value.cells] at hcs
    obtain ⟨rfl, rfl, rfl⟩ := hcs
    exact ⟨[], .inl ⟨_, _, rfl, rfl⟩, fun x hx => by cases hx⟩
  · simp [Value.cells] at hcs
    obtain ⟨rfl, rfl, rfl⟩ := hcs
    have hlm : len ≤ m := by rw [hmm]; split <;> omega
    have each : ∀ i, i < len → ∃ x : Flt, FltOk x ∧ ∀ j u, (fcells x)[j]? = some u → W.cell? ((a.add (i * 5)).add j) = some u := fun i hi => by
      obtain ⟨cs', h1, h2⟩ := he i (by omega)
      rw [cells47] at h1
      obtain ⟨_, hcl, hcell⟩ := World.cells?_some h1
      obtain ⟨fk, ft, fn, fa, fc, rfl, f1, f2, f3, f4⟩ := open_fault h2
      refine ⟨⟨fk, ft, fn, fa, fc⟩, ⟨⟨f1, f2⟩, f3, f4⟩, fun j u hj => ?_⟩
      have hj' : j < 5 := by have := (List.getElem?_eq_some_iff.1 hj).1; simpa [fcells] using this
      rw [hcell j hj']
      exact hj
    by_cases h0 : len = 0
    · subst h0
      exact ⟨[], .inl ⟨_, _, rfl, rfl⟩, fun x hx => by cases hx⟩
    · obtain ⟨b, o, rfl, hb⟩ : ∃ b o, a = ⟨b, o, none⟩ ∧ b < W.heap.size := by
        obtain ⟨x, _, hc⟩ := each 0 (by omega)
        have := hc 0 _ rfl
        rw [Go.Deep.add_add] at this
        exact plain_of (by simpa using this)
      haveI : Inhabited Flt := ⟨⟨0, 0, 0, 0, 0⟩⟩
      obtain ⟨f, hff⟩ := Go.Deep.choose_lt each
      have hlen : ((List.range len).map f).length = len := by simp
      have hget : ∀ j x, ((List.range len).map f)[j]? = some x → j < len ∧ x = f j := fun j x hj => by
        have hj' : j < len := by have := (List.getElem?_eq_some_iff.1 hj).1; simpa using this
        rw [List.getElem?_map, List.getElem?_range hj'] at hj
        exact ⟨hj', by simpa using hj.symm⟩
      refine ⟨(List.range len).map f, .inr ⟨b, o, cap, by rw [hlen]; omega, by rw [hlen], hb, fun j x hj i u hu => ?_⟩, fun x hx => ?_⟩
      · obtain ⟨hj', rfl⟩ := hget j x hj
        have := (hff j hj').2 i u hu
        rw [add_plain, add_plain] at this
        exact this
      · obtain ⟨j, hj, rfl⟩ := List.mem_map.1 hx
        exact (hff j (List.mem_range.1 hj)).1
set_option maxRecDepth 100000 in
theorem open_lose {b0 : Nat} {v : Value} {d : DataW H} {p : List MemPlace} (hv : Value.okWide Tryz.prog W .any b0 32 v) (h : DataW.Trod enc Tryz.prog W 0 (fun _ => true) true 32 v d p) : ∃ l, RdB W v l := by
  obtain ⟨a0, len, cap, rfl⟩ := okWide_slice Tryz.underlying32 hv
  obtain ⟨fuel, hf⟩ := h
  rcases Go.Deep.open_bools Tryz.underlying32 Tryz.underlying4 cells4 hf with ⟨hcs, _⟩ | ⟨a, len', cap', B, hcs, _, hl, hm, _, hc⟩
  · simp [Value.cells] at hcs
    obtain ⟨rfl, rfl, rfl⟩ := hcs
    exact ⟨[], .inl ⟨_, _, rfl, rfl⟩⟩
  · simp [Value.cells] at hcs
    obtain ⟨rfl, rfl, rfl⟩ := hcs
    by_cases h0 : len = 0
    · subst h0
      exact ⟨[], .inl ⟨_, _, rfl, rfl⟩⟩
    · obtain ⟨b, o, rfl, hb⟩ := plain_of (hc 0 (by omega))
      have hlen : ((List.range len).map B).length = len := by simp
      refine ⟨(List.range len).map B, .inr ⟨b, o, cap, by rw [hlen]; omega, by rw [hlen], hb, fun j z hj => ?_⟩⟩
      have hj' : j < len := by have := (List.getElem?_eq_some_iff.1 hj).1; simpa using this
      rw [List.getElem?_map, List.getElem?_range hj'] at hj
      have := hc j (by omega)
      rw [add_plain] at this
      rw [this]
      simpa using hj
set_option maxRecDepth 100000 in
theorem open_code {b0 : Nat} {v : Value} {d : DataW H} {p : List MemPlace} (hv : Value.okWide Tryz.prog W .any b0 25 v) (h : DataW.Trod enc Tryz.prog W 0 (fun _ => true) true 25 v d p) : ∃ K N : Int, v = .agg #[.int .i64 K, .int .i64 N] := by
  obtain ⟨c0, c1, y0, y1, m, rfl, rfl, rfl, hy0, hy1⟩ := open_agg2 (P := Tryz.prog) Tryz.underlying25 (by kernel_rfl) cells25 hv h
  obtain ⟨K, e0, _⟩ := DataW.trod_int Tryz.underlying3 hy0
  obtain ⟨N, e1, _⟩ := DataW.trod_int Tryz.underlying3 hy1
  simp at e0 e1
  exact ⟨K, N, by rw [e0, e1]⟩
end
end Go.Proofs.YtffhobkoagnhhaaGreatDoor
