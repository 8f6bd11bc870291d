/- Plain numbers: the digest of bytes by the document's words, over Nat, with no program in it. -/
import Derived.Laws.BitsAllLaws
import Derived.WalkKit
import Derived.WalkSpells
import Derived.WalkLawsBesides
import Derived.Deep.MidRow
import Derived.Test.YtmpgfpmkmgebdaaGreatDoorProg
namespace Go.Proofs.YtmpgfpmkmgebdaaGreatDoor.F
namespace Sha
/-- a turn by n, of 32 bits -/
def rotr (x n : Nat) : Nat := x * 2 ^ (32 - n) % 4294967296 ||| x / 2 ^ n
theorem rotr_lt (x n : Nat) (hx : x < 4294967296) : rotr x n < 4294967296 := by
  unfold rotr
  have h : x * 2 ^ (32 - n) % 4294967296 ||| x / 2 ^ n < 2 ^ 32 :=
    Nat.or_lt_two_pow (by have := Nat.mod_lt (x * 2 ^ (32 - n)) (by decide : 0 < 4294967296); omega)
      (Nat.lt_of_le_of_lt (Nat.div_le_self _ _) (by omega))
  omega
def sig0 (p : Nat) : Nat := rotr p 7 ^^^ rotr p 18 ^^^ p / 8
def sig1 (q : Nat) : Nat := rotr q 17 ^^^ rotr q 19 ^^^ q / 1024
/-- the next of the 64 numbers, out of those ahead -/
def nextW (a b c d : Nat) : Nat := (((a + b) % 4294967296 + sig0 c) % 4294967296 + sig1 d) % 4294967296
/-- x and y of one round -/
def tX (e f g h k w : Nat) : Nat := ((((h + (rotr e 6 ^^^ rotr e 11 ^^^ rotr e 25)) % 4294967296 + (e &&& f ^^^ (4294967295 - e) &&& g)) % 4294967296 + k) % 4294967296 + w) % 4294967296
def tY (a b c : Nat) : Nat := ((rotr a 2 ^^^ rotr a 13 ^^^ rotr a 22) + (a &&& b ^^^ a &&& c ^^^ b &&& c)) % 4294967296
structure S8 where
  a : Nat
  b : Nat
  c : Nat
  d : Nat
  e : Nat
  f : Nat
  g : Nat
  h : Nat
def S8.ok (s : S8) : Prop := s.a < 4294967296 ∧ s.b < 4294967296 ∧ s.c < 4294967296 ∧ s.d < 4294967296 ∧ s.e < 4294967296 ∧ s.f < 4294967296 ∧ s.g < 4294967296 ∧ s.h < 4294967296
def rnd (s : S8) (k w : Nat) : S8 :=
  ⟨(tX s.e s.f s.g s.h k w + tY s.a s.b s.c) % 4294967296, s.a, s.b, s.c, (s.d + tX s.e s.f s.g s.h k w) % 4294967296, s.e, s.f, s.g⟩
theorem nextW_lt (a b c d : Nat) : nextW a b c d < 4294967296 := Nat.mod_lt _ (by decide)
theorem rnd_ok (s : S8) (k w : Nat) (h : s.ok) : (rnd s k w).ok :=
  ⟨Nat.mod_lt _ (by decide), h.1, h.2.1, h.2.2.1, Nat.mod_lt _ (by decide), h.2.2.2.2.1, h.2.2.2.2.2.1, h.2.2.2.2.2.2.1⟩
def cube : List Nat := [1116352408, 1899447441, 3049323471, 3921009573, 961987163, 1508970993, 2453635748, 2870763221, 3624381080, 310598401, 607225278, 1426881987, 1925078388, 2162078206, 2614888103, 3248222580, 3835390401, 4022224774, 264347078, 604807628, 770255983, 1249150122, 1555081692, 1996064986, 2554220882, 2821834349, 2952996808, 3210313671, 3336571891, 3584528711, 113926993, 338241895, 666307205, 773529912, 1294757372, 1396182291, 1695183700, 1986661051, 2177026350, 2456956037, 2730485921, 2820302411, 3259730800, 3345764771, 3516065817, 3600352804, 4094571909, 275423344, 430227734, 506948616, 659060556, 883997877, 958139571, 1322822218, 1537002063, 1747873779, 1955562222, 2024104815, 2227730452, 2361852424, 2428436474, 2756734187, 3204031479, 3329325298]
def init : S8 := ⟨1779033703, 3144134277, 1013904242, 2773480762, 1359893119, 2600822924, 528734635, 1541459225⟩
/-- four bytes are a number -/
def word (b : List Nat) (i : Nat) : Nat := b.getD (4 * i) 0 * 16777216 + b.getD (4 * i + 1) 0 * 65536 + b.getD (4 * i + 2) 0 * 256 + b.getD (4 * i + 3) 0
/-- the first n of a block's numbers -/
def firstWs (b : List Nat) (n : Nat) : List Nat := (List.range n).map (word b)
def grow (l : List Nat) : List Nat := l ++ [nextW (l.getD (l.length - 16) 0) (l.getD (l.length - 7) 0) (l.getD (l.length - 15) 0) (l.getD (l.length - 2) 0)]
def growN : Nat → List Nat → List Nat
  | 0, l => l
  | n + 1, l => grow (growN n l)
def ws (b : List Nat) : List Nat := growN 48 (firstWs b 16)
def rounds (k w : List Nat) : Nat → S8 → S8
  | 0, s => s
  | n + 1, s => rnd (rounds k w n s) (k.getD n 0) (w.getD n 0)
def plus (s t : S8) : S8 := ⟨(s.a + t.a) % 4294967296, (s.b + t.b) % 4294967296, (s.c + t.c) % 4294967296, (s.d + t.d) % 4294967296, (s.e + t.e) % 4294967296, (s.f + t.f) % 4294967296, (s.g + t.g) % 4294967296, (s.h + t.h) % 4294967296⟩
/-- what the eight numbers become by one block -/
def mix (s : S8) (b : List Nat) : S8 := plus s (rounds cube (ws b) 64 s)
def eatN : Nat → S8 → List Nat → S8
  | 0, s, _ => s
  | n + 1, s, l => eatN n (mix s (l.take 64)) (l.drop 64)
/-- what the eight numbers become by all whole blocks -/
def eat (s : S8) (l : List Nat) : S8 := eatN (l.length / 64) s l
def left (l : List Nat) : List Nat := l.drop (64 * (l.length / 64))
theorem rounds_ok (k w : List Nat) (n : Nat) (s : S8) (h : s.ok) : (rounds k w n s).ok := by
  induction n with
  | zero => exact h
  | succ n ih => exact rnd_ok _ _ _ ih
theorem plus_ok (s t : S8) : (plus s t).ok := by
  refine ⟨?_, ?_, ?_, ?_, ?_, ?_, ?_, ?_⟩ <;> exact Nat.mod_lt _ (by decide)
theorem mix_ok (s : S8) (b : List Nat) : (mix s b).ok := plus_ok _ _
theorem eatN_ok (n : Nat) (s : S8) (l : List Nat) (h : s.ok) : (eatN n s l).ok := by
  induction n generalizing s l with
  | zero => exact h
  | succ n ih => exact ih _ _ (mix_ok _ _)
theorem eat_ok (s : S8) (l : List Nat) (h : s.ok) : (eat s l).ok := eatN_ok _ _ _ h
theorem grow_length (l : List Nat) : (grow l).length = l.length + 1 := by simp [grow]
theorem growN_length (n : Nat) (l : List Nat) : (growN n l).length = l.length + n := by
  induction n with
  | zero => rfl
  | succ n ih => simp only [growN, grow_length, ih]; omega
theorem firstWs_length (b : List Nat) (n : Nat) : (firstWs b n).length = n := by simp [firstWs]
theorem ws_length (b : List Nat) : (ws b).length = 64 := by simp [ws, growN_length, firstWs_length]
theorem word_lt (b : List Nat) (h : ∀ x ∈ b, x < 256) (i : Nat) : word b i < 4294967296 := by
  have g : ∀ j, b.getD j 0 < 256 := by
    intro j
    rw [List.getD_eq_getElem?_getD]
    by_cases hj : j < b.length
    · rw [List.getElem?_eq_getElem hj]; exact h _ (List.getElem_mem hj)
    · rw [List.getElem?_eq_none (by omega)]; decide
  have a := g (4 * i); have b' := g (4 * i + 1); have c := g (4 * i + 2); have d := g (4 * i + 3)
  unfold word; omega
end Sha
end Go.Proofs.YtmpgfpmkmgebdaaGreatDoor.F
/- Small facts on blocks of memory: what a block holds, and that it holds it still. No program in it. -/
namespace Go.Proofs.YtmpgfpmkmgebdaaGreatDoor.F
open Go.RowKit
/-- block b holds these cells, all of which may be written -/
def Has (w : World) (b : Nat) (cs : Array Value) (t : TypeId) : Prop := w.heap[b]? = some (.cells cs t (0, 0))
theorem Has.lt {w : World} {b : Nat} {cs : Array Value} {t : TypeId} (h : Has w b cs t) : b < w.heap.size := by
  unfold Has at h; exact (Array.getElem?_eq_some_iff.1 h).1
theorem Has.cell {w : World} {b : Nat} {cs : Array Value} {t : TypeId} (h : Has w b cs t) (i : Nat) : w.cell? ⟨b, i, none⟩ = cs[i]? := by
  unfold Has at h
  simp [World.cell?, h]
theorem Has.frozen {w : World} {b : Nat} {cs : Array Value} {t : TypeId} (h : Has w b cs t) (i : Nat) : w.frozen? ⟨b, i, none⟩ = false := by
  unfold Has at h
  simp [World.frozen?, h]
theorem Has.set {w : World} {b : Nat} {cs : Array Value} {t : TypeId} (h : Has w b cs t) (i : Nat) (v : Value) : Has (w.setCell ⟨b, i, none⟩ v) b (cs.setIfInBounds i v) t := by
  have hl := h.lt
  unfold Has at h ⊢
  simp [World.setCell, Array.getElem?_modify, h]
theorem Has.other {w : World} {b : Nat} {cs : Array Value} {t : TypeId} (h : Has w b cs t) (a : Addr) (v : Value) (hne : b ≠ a.block) : Has (w.setCell a v) b cs t := by
  unfold Has at h ⊢
  rw [Below.heap_setCell _ _ _ _ hne]; exact h
theorem Has.alloc {w : World} {b : Nat} {cs : Array Value} {t : TypeId} (h : Has w b cs t) (o : Obj) : Has (w.alloc o) b cs t := by
  have hl := h.lt
  unfold Has at h ⊢
  rw [Below.heap_alloc _ _ _ hl]; exact h
theorem Has.new (w : World) (b : Nat) (cs : Array Value) (t : TypeId) (hb : b = w.heap.size) : Has (w.alloc (.cells cs t)) b cs t := by
  subst hb
  unfold Has World.alloc; simp
theorem Has.drew {w : World} {b : Nat} {cs : Array Value} {t : TypeId} (h : Has w b cs t) : Has w.drew b cs t := h
theorem Has.drewN {w : World} {b : Nat} {cs : Array Value} {t : TypeId} (h : Has w b cs t) (n : Nat) : Has (w.drewN n) b cs t := h
theorem Has.below {w w' : World} {B b : Nat} {cs : Array Value} {t : TypeId} (h : Has w b cs t) (hb : Below B w w') (hl : b < B) : Has w' b cs t := by
  unfold Has at h ⊢; rw [hb.block b hl]; exact h
theorem below_setCells {B b : Nat} {a : World} (hb : B ≤ b) : ∀ (vs : List Value) (o : Nat) {w : World}, Below B a w → Below B a (w.setCells b o vs)
  | [], _, _, h => h
  | v :: r, o, _, h => by
    rw [World.setCells]
    exact below_setCells hb r (o + 1) (h.setCell hb v)
theorem has_setCells_other {b b' : Nat} {cs : Array Value} {t : TypeId} (hne : b ≠ b') : ∀ (vs : List Value) (o : Nat) {w : World}, Has w b cs t → Has (w.setCells b' o vs) b cs t
  | [], _, _, h => h
  | v :: r, o, _, h => by
    rw [World.setCells]
    exact has_setCells_other hne r (o + 1) (h.other _ _ hne)
theorem results_one_cell {fn : Func} {p : Tmp} {ty : TypeId} (h : fn.results = #[.cell p ty]) (tmps : Array Value) (P : Program) (w : World) :
    (results fn tmps).run P w = ((asAddr (tmps.getD p undef)).run P w).andThen fun a w₁ => (loadVar ty a).run P w₁ := by
  simp only [results, h]
  simp [Sem.run_bind, Result.andThen]
/-- a result that lies in memory, behind a store of the whole of it -/
theorem ret_row {P : Program} {v : Value} {w : World} {b : Nat} {cs : List Value} {ty : TypeId} {d : TypeDesc} (hv : v = .pointer (some ⟨b, 0, none⟩)) (hc : w.rangeAt b 0 cs)
    (hu : P.underlying ty = some d) (hd : d.isRow = true) (hi : (P.info? ty).map (·.size) = some cs.length) :
    (((asAddr v).run P w).andThen fun a w₁ => (loadVar ty a).run P w₁) = .ok (.agg cs.toArray) w := by
  subst hv
  exact run_loadVar_mid w b 0 ty cs d hc hu hd hi
theorem has_setCells_mid {b : Nat} {t : TypeId} : ∀ (vs : List Value) (o : Nat) (cs : List Value) {w : World}, Has w b cs.toArray t → o + vs.length ≤ cs.length → Has (w.setCells b o vs) b (cs.take o ++ vs ++ cs.drop (o + vs.length)).toArray t
  | [], o, cs, w, h, _ => by simpa [World.setCells] using h
  | v :: r, o, cs, w, h, hl => by
    rw [World.setCells]
    have h1 := h.set o v
    rw [List.setIfInBounds_toArray] at h1
    have h2 := has_setCells_mid r (o + 1) (cs.set o v) h1 (by simp at hl ⊢; omega)
    have e : (cs.set o v).take (o + 1) ++ r ++ (cs.set o v).drop (o + 1 + r.length) = cs.take o ++ (v :: r) ++ cs.drop (o + (v :: r).length) := by
      have ho : o < cs.length := by simp at hl; omega
      have e1 : (cs.set o v).take (o + 1) = cs.take o ++ [v] := by
        rw [List.take_succ_eq_append_getElem (by simpa using ho), List.take_set_of_le (Nat.le_refl _)]
        simp
      have e2 : (cs.set o v).drop (o + 1 + r.length) = cs.drop (o + (v :: r).length) := by
        rw [List.drop_set_of_lt (by omega)]; congr 1; simp; omega
      rw [e1, e2]; simp
    rw [e] at h2; exact h2
theorem has_setRow {b : Nat} {t : TypeId} {w : World} {cs vs : Array Value} (h : Has w b cs t) (hl : vs.size = cs.size) : Has (w.setCells b 0 vs.toList) b vs t := by
  have h1 := has_setCells_mid vs.toList 0 cs.toList (by simpa using h) (by simp [hl])
  have e : List.take 0 cs.toList ++ vs.toList ++ List.drop (0 + vs.toList.length) cs.toList = vs.toList := by
    rw [List.take_zero, List.drop_eq_nil_of_le (by simp [hl])]; simp
  rw [e] at h1; simpa using h1
/-- the world under a new name, with what is known of it -/
theorem gen_world {F G : World → Prop} {W : World} (h : F W) (k : ∀ W, F W → G W) : G W := k W h
/-- block b holds these cells, whatever may be written of them -/
def HasC (w : World) (b : Nat) (cs : Array Value) : Prop := ∃ t fr, w.heap[b]? = some (.cells cs t fr)
theorem HasC.lt {w : World} {b : Nat} {cs : Array Value} (h : HasC w b cs) : b < w.heap.size := by
  obtain ⟨t, fr, h⟩ := h; exact (Array.getElem?_eq_some_iff.1 h).1
theorem HasC.cell {w : World} {b : Nat} {cs : Array Value} (h : HasC w b cs) (i : Nat) : w.cell? ⟨b, i, none⟩ = cs[i]? := by
  obtain ⟨t, fr, h⟩ := h; simp [World.cell?, h]
theorem HasC.other {w : World} {b : Nat} {cs : Array Value} (h : HasC w b cs) (a : Addr) (v : Value) (hne : b ≠ a.block) : HasC (w.setCell a v) b cs := by
  obtain ⟨t, fr, h⟩ := h
  exact ⟨t, fr, by rw [Below.heap_setCell _ _ _ _ hne]; exact h⟩
theorem HasC.alloc {w : World} {b : Nat} {cs : Array Value} (h : HasC w b cs) (o : Obj) : HasC (w.alloc o) b cs := by
  have hl := h.lt
  obtain ⟨t, fr, h⟩ := h
  exact ⟨t, fr, by rw [Below.heap_alloc _ _ _ hl]; exact h⟩
theorem HasC.below {w w' : World} {B b : Nat} {cs : Array Value} (h : HasC w b cs) (hb : Below B w w') (hl : b < B) : HasC w' b cs := by
  obtain ⟨t, fr, h⟩ := h
  exact ⟨t, fr, by rw [hb.block b hl]; exact h⟩
theorem hasC_setCells_other {b b' : Nat} {cs : Array Value} (hne : b ≠ b') : ∀ (vs : List Value) (o : Nat) {w : World}, HasC w b cs → HasC (w.setCells b' o vs) b cs
  | [], _, _, h => h
  | v :: r, o, _, h => by
    rw [World.setCells]
    exact hasC_setCells_other hne r (o + 1) (h.other _ _ hne)
theorem below_draws {B : Nat} {w w' : World} (h : Below B w w') (n : Nat) : Below B w (w'.drewN n) := ⟨h.os, h.tape, h.output, h.size, h.block⟩
theorem Has.range {w : World} {b : Nat} {cs : Array Value} {t : TypeId} (h : Has w b cs t) : w.rangeAt b 0 cs.toList := fun j v hv => by
  rw [Nat.zero_add, h.cell]; simpa using hv
theorem Has.there {w : World} {b : Nat} {cs : Array Value} {t : TypeId} (h : Has w b cs t) (o n : Nat) (hn : o + n ≤ cs.size) : w.there b o n := fun j hj => by
  refine ⟨?_, h.frozen _⟩
  rw [h.cell]; simp; omega
end Go.Proofs.YtmpgfpmkmgebdaaGreatDoor.F
/- Rows of numbers as cells, and the numbers that a walk writes, brought to plain ones. No program in it. -/
namespace Go.Proofs.YtmpgfpmkmgebdaaGreatDoor.F
open Go.RowKit
theorem ret_int {k : IntKind} {a b : Int} (h : a = b) : Ending.returned (.int k a) = .returned (.int k b) := by rw [h]
theorem wrap_i64_of {n : Int} (h1 : -9223372036854775808 ≤ n) (h2 : n ≤ 9223372036854775807) : IntKind.i64.wrap n = n := by
  simp [IntKind.wrap, IntKind.bits, IntKind.signed]; omega
def U8s (b : List Nat) : Array Value := (b.map fun x : Nat => Value.int .u8 (x : Int)).toArray
def U32s (b : List Nat) : Array Value := (b.map fun x : Nat => Value.int .u32 (x : Int)).toArray
theorem U8s_size (b : List Nat) : (U8s b).size = b.length := by simp [U8s]
theorem U32s_size (b : List Nat) : (U32s b).size = b.length := by simp [U32s]
theorem U8s_get (b : List Nat) (i : Nat) (h : i < b.length) : (U8s b)[i]? = some (.int .u8 ((b.getD i 0 : Nat) : Int)) := by
  simp [U8s, List.getD_eq_getElem?_getD, List.getElem?_eq_getElem h]
theorem U32s_get (b : List Nat) (i : Nat) (h : i < b.length) : (U32s b)[i]? = some (.int .u32 ((b.getD i 0 : Nat) : Int)) := by
  simp [U32s, List.getD_eq_getElem?_getD, List.getElem?_eq_getElem h]
def S8v (s : Sha.S8) : Array Value := #[.int .u32 (s.a : Int), .int .u32 (s.b : Int), .int .u32 (s.c : Int), .int .u32 (s.d : Int), .int .u32 (s.e : Int), .int .u32 (s.f : Int), .int .u32 (s.g : Int), .int .u32 (s.h : Int)]
/-- the tables hold what they are laid as -/
structure Tabs (w : World) : Prop where
  sq : HasC w 0 (S8v Sha.init)
  cu : HasC w 2 (U32s Sha.cube)
theorem getD_lt (l : List Nat) (m : Nat) (hm : 0 < m) (h : ∀ x ∈ l, x < m) (i : Nat) : l.getD i 0 < m := by
  rw [List.getD_eq_getElem?_getD]
  by_cases hj : i < l.length
  · rw [List.getElem?_eq_getElem hj]; exact h _ (List.getElem_mem hj)
  · rw [List.getElem?_eq_none (by omega)]; exact hm
/-- a list, filled up by noughts -/
def fillUp (l : List Nat) (n : Nat) : List Nat := l ++ List.replicate (n - l.length) 0
theorem fillUp_length (l : List Nat) (n : Nat) (h : l.length ≤ n) : (fillUp l n).length = n := by simp [fillUp]; omega
theorem fillUp_full (l : List Nat) (n : Nat) (h : l.length = n) : fillUp l n = l := by simp [fillUp, h]
theorem fillUp_get (l : List Nat) (n i : Nat) (h : i < l.length) : (fillUp l n).getD i 0 = l.getD i 0 := by
  simp [fillUp, List.getD_eq_getElem?_getD, List.getElem?_append_left h]
theorem fillUp_snoc (l : List Nat) (n x k : Nat) (hk : k = l.length) (h : l.length < n) : (U32s (fillUp l n)).setIfInBounds k (.int .u32 (x : Int)) = U32s (fillUp (l ++ [x]) n) := by
  subst hk
  have e : List.replicate (n - l.length) 0 = 0 :: List.replicate (n - (l ++ [x]).length) (0 : Nat) := by
    rw [← List.replicate_succ]; congr 1; simp; omega
  unfold U32s fillUp
  rw [e]
  apply Array.toList_inj.1
  simp
theorem cell_set_drew {w : World} {a q : Addr} {u v : Value} (h : w.cell? q = some v) (hne : a.block ≠ q.block) : (w.setCell a u).drew.cell? q = some v := by
  rw [World.cell?_drew, World.cell?_setCell_other (h := fun e => hne (by rw [e])), h]
theorem cell_set_off {w : World} {b i j : Nat} {u v : Value} (h : w.cell? ⟨b, j, none⟩ = some v) (hne : i ≠ j) : (w.setCell ⟨b, i, none⟩ u).drew.cell? ⟨b, j, none⟩ = some v := by
  rw [World.cell?_drew, World.cell?_setCell_other (h := fun e => hne (congrArg Addr.off e)), h]
theorem or4 (p q r s : Nat) (hp : p < 256) (hq : q < 256) (hr : r < 256) (hs : s < 256) :
    bits BinOp.or IntKind.u32 (bits BinOp.or IntKind.u32 (bits BinOp.or IntKind.u32 (IntKind.u32.wrap (IntKind.u32.wrap (p : Int) * 16777216)) (IntKind.u32.wrap (IntKind.u32.wrap (q : Int) * 65536))) (IntKind.u32.wrap (IntKind.u32.wrap (r : Int) * 256))) (IntKind.u32.wrap (s : Int))
      = ((p * 16777216 + q * 65536 + r * 256 + s : Nat) : Int) := by
  have e1 : IntKind.u32.wrap (IntKind.u32.wrap (p : Int) * 16777216) = ((p * 16777216 : Nat) : Int) := by
    rw [IntKind.wrap_u32', IntKind.wrap_u32']; omega
  have e2 : IntKind.u32.wrap (IntKind.u32.wrap (q : Int) * 65536) = ((q * 65536 : Nat) : Int) := by
    rw [IntKind.wrap_u32', IntKind.wrap_u32']; omega
  have e3 : IntKind.u32.wrap (IntKind.u32.wrap (r : Int) * 256) = ((r * 256 : Nat) : Int) := by
    rw [IntKind.wrap_u32', IntKind.wrap_u32']; omega
  have e4 : IntKind.u32.wrap (s : Int) = ((s : Nat) : Int) := by
    rw [IntKind.wrap_u32']; omega
  have j1 : p * 16777216 ||| q * 65536 = p * 16777216 + q * 65536 := nat_join 24 _ _ (by omega) (by omega)
  have j2 : (p * 16777216 + q * 65536) ||| r * 256 = p * 16777216 + q * 65536 + r * 256 := nat_join 16 _ _ (by omega) (by omega)
  have j3 : (p * 16777216 + q * 65536 + r * 256) ||| s = p * 16777216 + q * 65536 + r * 256 + s := nat_join 8 _ _ (by omega) (by omega)
  rw [e1, e2, e3, e4, u32_or_nat _ _ (by omega) (by omega), j1, u32_or_nat _ _ (by omega) (by omega), j2, u32_or_nat _ _ (by omega) (by omega), j3]
theorem firstWs_succ (b : List Nat) (k : Nat) : Sha.firstWs b (k + 1) = Sha.firstWs b k ++ [Sha.word b k] := by
  simp [Sha.firstWs, List.range_succ]
theorem sig_close (p a b n : Nat) (m : Int) (hm : m = (n : Int)) (hp : p < 4294967296) (ha : a < 4294967296) (hb : b < 4294967296) :
    bits BinOp.xor IntKind.u32 (bits BinOp.xor IntKind.u32 (a : Int) (b : Int)) ((p : Int) / m) = ((a ^^^ b ^^^ p / n : Nat) : Int) := by
  subst hm
  have hx : a ^^^ b < 2 ^ 32 := Nat.xor_lt_two_pow (by omega) (by omega)
  rw [u32_xor_nat a b ha hb, ← Int.natCast_ediv, u32_xor_nat _ _ (by omega) (Nat.lt_of_le_of_lt (Nat.div_le_self _ _) hp)]
theorem sig0_close (p : Nat) (hp : p < 4294967296) : bits BinOp.xor IntKind.u32 (bits BinOp.xor IntKind.u32 ((Sha.rotr p 7 : Nat) : Int) ((Sha.rotr p 18 : Nat) : Int)) ((p : Int) / 8) = ((Sha.sig0 p : Nat) : Int) :=
  sig_close p _ _ 8 8 rfl hp (Sha.rotr_lt _ _ hp) (Sha.rotr_lt _ _ hp)
theorem sig1_close (q : Nat) (hq : q < 4294967296) : bits BinOp.xor IntKind.u32 (bits BinOp.xor IntKind.u32 ((Sha.rotr q 17 : Nat) : Int) ((Sha.rotr q 19 : Nat) : Int)) ((q : Int) / 1024) = ((Sha.sig1 q : Nat) : Int) :=
  sig_close q _ _ 1024 1024 rfl hq (Sha.rotr_lt _ _ hq) (Sha.rotr_lt _ _ hq)
theorem next_close (r s p q : Nat) : ((((r : Int) + (s : Int)) % 4294967296 + ((Sha.sig0 p : Nat) : Int)) % 4294967296 + ((Sha.sig1 q : Nat) : Int)) % 4294967296 = ((Sha.nextW r s p q : Nat) : Int) := by
  unfold Sha.nextW; omega
theorem not32 (e : Nat) (he : e < 4294967296) : 4294967295 ^^^ e = 4294967295 - e := by
  have h := BitVec.toNat_not (x := BitVec.ofNat 32 e)
  rw [BitVec.not_def, BitVec.toNat_xor, BitVec.toNat_allOnes, BitVec.toNat_ofNat, Nat.mod_eq_of_lt (by omega)] at h
  exact h
theorem not32_close (e : Nat) (he : e < 4294967296) : bits BinOp.xor IntKind.u32 (if IntKind.u32.signed = true then -1 else IntKind.u32.max) (e : Int) = ((4294967295 - e : Nat) : Int) := by
  have : (if IntKind.u32.signed = true then -1 else IntKind.u32.max) = ((4294967295 : Nat) : Int) := by decide
  rw [this, u32_xor_nat _ _ (by decide) he, not32 e he]
theorem xor_lt32 {a b : Nat} (ha : a < 4294967296) (hb : b < 4294967296) : a ^^^ b < 4294967296 := by
  have : a ^^^ b < 2 ^ 32 := Nat.xor_lt_two_pow (by omega) (by omega)
  omega
theorem and_lt32 {a b : Nat} (ha : a < 4294967296) : a &&& b < 4294967296 := Nat.lt_of_le_of_lt Nat.and_le_left ha
theorem xor3_close (a b c : Nat) (ha : a < 4294967296) (hb : b < 4294967296) (hc : c < 4294967296) :
    bits BinOp.xor IntKind.u32 (bits BinOp.xor IntKind.u32 (a : Int) (b : Int)) (c : Int) = ((a ^^^ b ^^^ c : Nat) : Int) := by
  rw [u32_xor_nat a b ha hb, u32_xor_nat _ _ (xor_lt32 ha hb) hc]
theorem tX_close (e f g h k w : Nat) (he : e < 4294967296) (hf : f < 4294967296) (hg : g < 4294967296) :
    ((h : Int) + bits BinOp.xor IntKind.u32 (bits BinOp.xor IntKind.u32 ((Sha.rotr e 6 : Nat) : Int) ((Sha.rotr e 11 : Nat) : Int)) ((Sha.rotr e 25 : Nat) : Int)
      + bits BinOp.xor IntKind.u32 (bits BinOp.and IntKind.u32 (e : Int) (f : Int)) (bits BinOp.and IntKind.u32 (bits BinOp.xor IntKind.u32 (if IntKind.u32.signed = true then -1 else IntKind.u32.max) (e : Int)) (g : Int))
      + (k : Int) + (w : Int)) % 4294967296 = ((Sha.tX e f g h k w : Nat) : Int) := by
  rw [xor3_close _ _ _ (Sha.rotr_lt _ _ he) (Sha.rotr_lt _ _ he) (Sha.rotr_lt _ _ he), not32_close e he, u32_and_nat _ _ he hf, u32_and_nat _ _ (by omega) hg, u32_xor_nat _ _ (and_lt32 he) (and_lt32 (by omega))]
  unfold Sha.tX
  omega
theorem tY_close (a b c : Nat) (ha : a < 4294967296) (hb : b < 4294967296) (hc : c < 4294967296) :
    (bits BinOp.xor IntKind.u32 (bits BinOp.xor IntKind.u32 ((Sha.rotr a 2 : Nat) : Int) ((Sha.rotr a 13 : Nat) : Int)) ((Sha.rotr a 22 : Nat) : Int)
      + bits BinOp.xor IntKind.u32 (bits BinOp.xor IntKind.u32 (bits BinOp.and IntKind.u32 (a : Int) (b : Int)) (bits BinOp.and IntKind.u32 (a : Int) (c : Int))) (bits BinOp.and IntKind.u32 (b : Int) (c : Int))) % 4294967296 = ((Sha.tY a b c : Nat) : Int) := by
  rw [xor3_close _ _ _ (Sha.rotr_lt _ _ ha) (Sha.rotr_lt _ _ ha) (Sha.rotr_lt _ _ ha), u32_and_nat _ _ ha hb, u32_and_nat _ _ ha hc, u32_and_nat _ _ hb hc, xor3_close _ _ _ (and_lt32 ha) (and_lt32 ha) (and_lt32 hb)]
  unfold Sha.tY
  omega
def S8.L (s : Sha.S8) : List Nat := [s.a, s.b, s.c, s.d, s.e, s.f, s.g, s.h]
theorem S8v_L (s : Sha.S8) : S8v s = U32s (S8.L s) := rfl
/-- the first j of the numbers with the others added -/
def part (s t : Sha.S8) (j : Nat) : List Nat := (S8.L (Sha.plus s t)).take j ++ (S8.L s).drop j
theorem eight {j : Nat} (hj : j < 8) : j = 0 ∨ j = 1 ∨ j = 2 ∨ j = 3 ∨ j = 4 ∨ j = 5 ∨ j = 6 ∨ j = 7 := by omega
theorem part_length (s t : Sha.S8) (j : Nat) (hj : j ≤ 8) : (part s t j).length = 8 := by
  have h : ∀ x : Sha.S8, (S8.L x).length = 8 := fun _ => rfl
  simp [part, h]; omega
theorem part_get (s t : Sha.S8) (j : Nat) (hj : j < 8) : (part s t j).getD j 0 = (S8.L s).getD j 0 := by
  rcases eight hj with rfl | rfl | rfl | rfl | rfl | rfl | rfl | rfl <;> rfl
theorem part_step (s t : Sha.S8) (j : Nat) (hj : j < 8) : (U32s (part s t j)).setIfInBounds j (.int .u32 (((((S8.L s).getD j 0 : Nat) : Int) + (((S8.L t).getD j 0 : Nat) : Int)) % 4294967296)) = U32s (part s t (j + 1)) := by
  have h : ∀ x y : Nat, ((x : Int) + (y : Int)) % 4294967296 = (((x + y) % 4294967296 : Nat) : Int) := fun x y => by omega
  rw [h]
  rcases eight hj with rfl | rfl | rfl | rfl | rfl | rfl | rfl | rfl <;> rfl
theorem part_8 (s t : Sha.S8) : U32s (part s t 8) = S8v (Sha.plus s t) := rfl
end Go.Proofs.YtmpgfpmkmgebdaaGreatDoor.F
/- The contract of turn: a turn of 32 bits, by 1 to 31 places; nothing in memory changes. -/
namespace Go.Proofs.YtmpgfpmkmgebdaaGreatDoor.F
open Go.RowKit
theorem and31 (n : Nat) (h1 : 1 ≤ n) (h2 : n ≤ 31) : bits .and .u64 (IntKind.u64.wrap (-(n : Int))) 31 = 32 - (n : Int) := by
  have : n = 1 ∨ n = 2 ∨ n = 3 ∨ n = 4 ∨ n = 5 ∨ n = 6 ∨ n = 7 ∨ n = 8 ∨ n = 9 ∨ n = 10 ∨ n = 11 ∨ n = 12 ∨ n = 13 ∨ n = 14 ∨ n = 15 ∨ n = 16 ∨ n = 17 ∨ n = 18 ∨ n = 19 ∨ n = 20 ∨ n = 21 ∨ n = 22 ∨ n = 23 ∨ n = 24 ∨ n = 25 ∨ n = 26 ∨ n = 27 ∨ n = 28 ∨ n = 29 ∨ n = 30 ∨ n = 31 := by omega
  rcases this with rfl | rfl | rfl | rfl | rfl | rfl | rfl | rfl | rfl | rfl | rfl | rfl | rfl | rfl | rfl | rfl | rfl | rfl | rfl | rfl | rfl | rfl | rfl | rfl | rfl | rfl | rfl | rfl | rfl | rfl | rfl <;> decide +kernel
theorem rot_close (x n : Nat) (hx : x < 4294967296) (h2 : n ≤ 31) :
    bits BinOp.or IntKind.u32 (↑x * 2 ^ (32 - n) % 4294967296) (↑x / 2 ^ (32 - (32 - n))) = ((Sha.rotr x n : Nat) : Int) := by
  have e1 : ((x : Int) * 2 ^ (32 - n) % 4294967296) = ((x * 2 ^ (32 - n) % 4294967296 : Nat) : Int) := by simp
  have e2 : ((x : Int) / 2 ^ (32 - (32 - n))) = ((x / 2 ^ n : Nat) : Int) := by
    rw [show 32 - (32 - n) = n by omega]; simp
  rw [e1, e2, u32_or_nat _ _ (Nat.mod_lt _ (by decide)) (Nat.lt_of_le_of_lt (Nat.div_le_self _ _) hx)]
  rfl
theorem rot_any (x n : Nat) (w : World) (hx : x < 4294967296) (h1 : 1 ≤ n) (h2 : n ≤ 31) :
    Calls Tryz.prog 182 #[.int .u32 x, .int .i64 (-(n : Int))] w fun e w' => e = .returned (.int .u32 (Sha.rotr x n : Nat)) ∧ w' = w := by
  have ha := and31 n h1 h2
  go_enter Tryz.func182, Tryz.ntmps182
  go_wp2
  go_ret
  exact ⟨ret_int (rot_close x n hx h2), rfl⟩
theorem turn_any (x n : Nat) (w : World) (hx : x < 4294967296) (h1 : 1 ≤ n) (h2 : n ≤ 31) :
    Calls Tryz.prog 169 #[.int .u32 x, .int .i64 n] w fun e w' => e = .returned (.int .u32 (Sha.rotr x n : Nat)) ∧ w' = w := by
  go_enter Tryz.func169, Tryz.ntmps169
  go_wp2_with (go_at_call 182; refine (rot_any _ _ _ hx h1 h2).mono ?_; rintro e w' ⟨rfl, rfl⟩)
  go_ret
  exact ⟨rfl, rfl⟩
/-- the same, at a number as a walk writes it -/
theorem turn_lit (x : Nat) (n : Int) (w : World) (hx : x < 4294967296) (h1 : 1 ≤ n) (h2 : n ≤ 31) :
    Calls Tryz.prog 169 #[.int .u32 x, .int .i64 n] w fun e w' => e = .returned (.int .u32 (Sha.rotr x n.toNat : Nat)) ∧ w' = w := by
  obtain ⟨m, rfl⟩ := Int.eq_ofNat_of_zero_le (show 0 ≤ n by omega)
  rw [Int.toNat_natCast]
  exact turn_any x m w hx (by omega) (by omega)
end Go.Proofs.YtmpgfpmkmgebdaaGreatDoor.F
