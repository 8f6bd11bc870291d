/- The laws' small functions: the same numbers, the same texts, more than is gone through, a byte so often. -/
import Derived.Test.YtjhjolnflkekoaaDoorSmall
import Derived.Laws.BitsAllLaws
import Derived.WalkKit
import Derived.WalkSpells
import Derived.WalkLawsBesides
import Derived.Deep.MidRow
namespace Go.Proofs.YtjhjolnflkekoaaDoor
open Go.RowKit
open Pk
set_option linter.unusedVariables false
theorem makes_u8 (n : Nat) (hn : n ≤ 1000000) (w : World) : (Instr.makeSlice 51 (.int .i64 (n : Int)) (.int .i64 (n : Int))).run Tryd.prog w = .ok (.slice (some ⟨w.heap.size, 0, none⟩) n n) (w.alloc (.cells (U8s (List.replicate n 0)) 5)) := by
  obtain ⟨i, hi, h1, h2, h3⟩ := info_parts (show (Tryd.prog.info? 5).map (fun i => (i.zero, i.size, i.bytes)) = some (some (.int .u8 0), 1, 1) by kernel_rfl)
  rw [run_make w 51 5 i (.int .u8 0) Tryd.underlying51 hi h1 .i64 .i64 (n : Int) (n : Int) (by omega) (Int.le_refl _) (by rw [h3]; omega) (by omega)]
  have e : madeCells (Value.int .u8 0).cells (n * 1) = U8s (List.replicate n 0) := by
    apply Array.toList_inj.1
    have hz : (Value.int .u8 0).cells = #[.int .u8 0] := rfl
    rw [hz, Nat.mul_one]
    apply List.ext_getElem
    · simp [madeCells, U8s]
    · intro k h1 h2
      simp [madeCells, U8s, Nat.mod_one]
  rw [h2, Int.toNat_natCast, e]
theorem conv_any {W : World} {q n : Nat} {l : List Nat} (h : Has W q (U8s l) 5) (hl : l.length = n) (h0 : 0 < n) : (convert 51 9 (.slice (some ⟨q, 0, none⟩) n n)).run Tryd.prog W = .ok (.string (ofBs l)) W := by
  subst hl
  exact conv_u8 h h0
theorem fill_set (k n b : Nat) (h : k < n) : (List.replicate k b ++ List.replicate (n - k) 0).set k b = List.replicate (k + 1) b ++ List.replicate (n - (k + 1)) 0 := by
  rw [List.set_append_right _ _ (by simp), List.length_replicate, Nat.sub_self, show n - k = (n - (k + 1)) + 1 by omega, List.replicate_succ, List.set_cons_zero, List.replicate_succ', List.append_assoc]
  rfl
/-- a byte so often -/
def rep (n b : Nat) : ByteArray := ofBs (List.replicate n b)
theorem rep_size (n b : Nat) : (rep n b).size = n := by unfold rep; rw [ofBs_size, List.length_replicate]
theorem rep_bs (n b : Nat) (hb : b < 256) : bs (rep n b) = List.replicate n b := bs_ofBs _ (fun x hx => by rw [List.eq_of_mem_replicate hx]; exact hb)
end Go.Proofs.YtjhjolnflkekoaaDoor
/- Plain numbers: the digest of bytes by the document's words, over Nat, with no program in it. -/
namespace Go.Proofs.YtjhjolnflkekoaaDoor.S
namespace Sha
/-- a turn by n, of 32 bits -/
def rotr (x n : Nat) : Nat := x * 2 ^ (32 - n) % 4294967296 ||| x / 2 ^ n
theorem rotr_lt (x n : Nat) (hx : x < 4294967296) : rotr x n < 4294967296 := by
  unfold rotr
  have h : x * 2 ^ (32 - n) % 4294967296 ||| x / 2 ^ n < 2 ^ 32 :=
    Nat.or_lt_two_pow (by have := Nat.mod_lt (x * 2 ^ (32 - n)) (by decide : 0 < 4294967296); omega)
      (Nat.lt_of_le_of_lt (Nat.div_le_self _ _) (by omega))
  omega
def sig0 (p : Nat) : Nat := rotr p 7 ^^^ rotr p 18 ^^^ p / 8
def sig1 (q : Nat) : Nat := rotr q 17 ^^^ rotr q 19 ^^^ q / 1024
/-- the next of the 64 numbers, out of those ahead -/
def nextW (a b c d : Nat) : Nat := (((a + b) % 4294967296 + sig0 c) % 4294967296 + sig1 d) % 4294967296
/-- x and y of one round -/
def tX (e f g h k w : Nat) : Nat := ((((h + (rotr e 6 ^^^ rotr e 11 ^^^ rotr e 25)) % 4294967296 + (e &&& f ^^^ (4294967295 - e) &&& g)) % 4294967296 + k) % 4294967296 + w) % 4294967296
def tY (a b c : Nat) : Nat := ((rotr a 2 ^^^ rotr a 13 ^^^ rotr a 22) + (a &&& b ^^^ a &&& c ^^^ b &&& c)) % 4294967296
structure S8 where
  a : Nat
  b : Nat
  c : Nat
  d : Nat
  e : Nat
  f : Nat
  g : Nat
  h : Nat
def S8.ok (s : S8) : Prop := s.a < 4294967296 ∧ s.b < 4294967296 ∧ s.c < 4294967296 ∧ s.d < 4294967296 ∧ s.e < 4294967296 ∧ s.f < 4294967296 ∧ s.g < 4294967296 ∧ s.h < 4294967296
def rnd (s : S8) (k w : Nat) : S8 :=
  ⟨(tX s.e s.f s.g s.h k w + tY s.a s.b s.c) % 4294967296, s.a, s.b, s.c, (s.d + tX s.e s.f s.g s.h k w) % 4294967296, s.e, s.f, s.g⟩
theorem nextW_lt (a b c d : Nat) : nextW a b c d < 4294967296 := Nat.mod_lt _ (by decide)
theorem rnd_ok (s : S8) (k w : Nat) (h : s.ok) : (rnd s k w).ok :=
  ⟨Nat.mod_lt _ (by decide), h.1, h.2.1, h.2.2.1, Nat.mod_lt _ (by decide), h.2.2.2.2.1, h.2.2.2.2.2.1, h.2.2.2.2.2.2.1⟩
def cube : List Nat := [1116352408, 1899447441, 3049323471, 3921009573, 961987163, 1508970993, 2453635748, 2870763221, 3624381080, 310598401, 607225278, 1426881987, 1925078388, 2162078206, 2614888103, 3248222580, 3835390401, 4022224774, 264347078, 604807628, 770255983, 1249150122, 1555081692, 1996064986, 2554220882, 2821834349, 2952996808, 3210313671, 3336571891, 3584528711, 113926993, 338241895, 666307205, 773529912, 1294757372, 1396182291, 1695183700, 1986661051, 2177026350, 2456956037, 2730485921, 2820302411, 3259730800, 3345764771, 3516065817, 3600352804, 4094571909, 275423344, 430227734, 506948616, 659060556, 883997877, 958139571, 1322822218, 1537002063, 1747873779, 1955562222, 2024104815, 2227730452, 2361852424, 2428436474, 2756734187, 3204031479, 3329325298]
def init : S8 := ⟨1779033703, 3144134277, 1013904242, 2773480762, 1359893119, 2600822924, 528734635, 1541459225⟩
/-- four bytes are a number -/
def word (b : List Nat) (i : Nat) : Nat := b.getD (4 * i) 0 * 16777216 + b.getD (4 * i + 1) 0 * 65536 + b.getD (4 * i + 2) 0 * 256 + b.getD (4 * i + 3) 0
/-- the first n of a block's numbers -/
def firstWs (b : List Nat) (n : Nat) : List Nat := (List.range n).map (word b)
def grow (l : List Nat) : List Nat := l ++ [nextW (l.getD (l.length - 16) 0) (l.getD (l.length - 7) 0) (l.getD (l.length - 15) 0) (l.getD (l.length - 2) 0)]
def growN : Nat → List Nat → List Nat
  | 0, l => l
  | n + 1, l => grow (growN n l)
def ws (b : List Nat) : List Nat := growN 48 (firstWs b 16)
def rounds (k w : List Nat) : Nat → S8 → S8
  | 0, s => s
  | n + 1, s => rnd (rounds k w n s) (k.getD n 0) (w.getD n 0)
def plus (s t : S8) : S8 := ⟨(s.a + t.a) % 4294967296, (s.b + t.b) % 4294967296, (s.c + t.c) % 4294967296, (s.d + t.d) % 4294967296, (s.e + t.e) % 4294967296, (s.f + t.f) % 4294967296, (s.g + t.g) % 4294967296, (s.h + t.h) % 4294967296⟩
/-- what the eight numbers become by one block -/
def mix (s : S8) (b : List Nat) : S8 := plus s (rounds cube (ws b) 64 s)
def eatN : Nat → S8 → List Nat → S8
  | 0, s, _ => s
  | n + 1, s, l => eatN n (mix s (l.take 64)) (l.drop 64)
/-- what the eight numbers become by all whole blocks -/
def eat (s : S8) (l : List Nat) : S8 := eatN (l.length / 64) s l
def left (l : List Nat) : List Nat := l.drop (64 * (l.length / 64))
theorem rounds_ok (k w : List Nat) (n : Nat) (s : S8) (h : s.ok) : (rounds k w n s).ok := by
  induction n with
  | zero => exact h
  | succ n ih => exact rnd_ok _ _ _ ih
theorem plus_ok (s t : S8) : (plus s t).ok := by
  refine ⟨?_, ?_, ?_, ?_, ?_, ?_, ?_, ?_⟩ <;> exact Nat.mod_lt _ (by decide)
theorem mix_ok (s : S8) (b : List Nat) : (mix s b).ok := plus_ok _ _
theorem eatN_ok (n : Nat) (s : S8) (l : List Nat) (h : s.ok) : (eatN n s l).ok := by
  induction n generalizing s l with
  | zero => exact h
  | succ n ih => exact ih _ _ (mix_ok _ _)
theorem eat_ok (s : S8) (l : List Nat) (h : s.ok) : (eat s l).ok := eatN_ok _ _ _ h
theorem grow_length (l : List Nat) : (grow l).length = l.length + 1 := by simp [grow]
theorem growN_length (n : Nat) (l : List Nat) : (growN n l).length = l.length + n := by
  induction n with
  | zero => rfl
  | succ n ih => simp only [growN, grow_length, ih]; omega
theorem firstWs_length (b : List Nat) (n : Nat) : (firstWs b n).length = n := by simp [firstWs]
theorem ws_length (b : List Nat) : (ws b).length = 64 := by simp [ws, growN_length, firstWs_length]
theorem word_lt (b : List Nat) (h : ∀ x ∈ b, x < 256) (i : Nat) : word b i < 4294967296 := by
  have g : ∀ j, b.getD j 0 < 256 := by
    intro j
    rw [List.getD_eq_getElem?_getD]
    by_cases hj : j < b.length
    · rw [List.getElem?_eq_getElem hj]; exact h _ (List.getElem_mem hj)
    · rw [List.getElem?_eq_none (by omega)]; decide
  have a := g (4 * i); have b' := g (4 * i + 1); have c := g (4 * i + 2); have d := g (4 * i + 3)
  unfold word; omega
end Sha
end Go.Proofs.YtjhjolnflkekoaaDoor.S
/- Small facts on blocks of memory: what a block holds, and that it holds it still. No program in it. -/
namespace Go.Proofs.YtjhjolnflkekoaaDoor.S
open Go.RowKit
/-- block b holds these cells, all of which may be written -/
def Has (w : World) (b : Nat) (cs : Array Value) (t : TypeId) : Prop := w.heap[b]? = some (.cells cs t (0, 0))
theorem Has.lt {w : World} {b : Nat} {cs : Array Value} {t : TypeId} (h : Has w b cs t) : b < w.heap.size := by
  unfold Has at h; exact (Array.getElem?_eq_some_iff.1 h).1
theorem Has.cell {w : World} {b : Nat} {cs : Array Value} {t : TypeId} (h : Has w b cs t) (i : Nat) : w.cell? ⟨b, i, none⟩ = cs[i]? := by
  unfold Has at h
  simp [World.cell?, h]
theorem Has.frozen {w : World} {b : Nat} {cs : Array Value} {t : TypeId} (h : Has w b cs t) (i : Nat) : w.frozen? ⟨b, i, none⟩ = false := by
  unfold Has at h
  simp [World.frozen?, h]
theorem Has.set {w : World} {b : Nat} {cs : Array Value} {t : TypeId} (h : Has w b cs t) (i : Nat) (v : Value) : Has (w.setCell ⟨b, i, none⟩ v) b (cs.setIfInBounds i v) t := by
  have hl := h.lt
  unfold Has at h ⊢
  simp [World.setCell, Array.getElem?_modify, h]
theorem Has.other {w : World} {b : Nat} {cs : Array Value} {t : TypeId} (h : Has w b cs t) (a : Addr) (v : Value) (hne : b ≠ a.block) : Has (w.setCell a v) b cs t := by
  unfold Has at h ⊢
  rw [Below.heap_setCell _ _ _ _ hne]; exact h
theorem Has.alloc {w : World} {b : Nat} {cs : Array Value} {t : TypeId} (h : Has w b cs t) (o : Obj) : Has (w.alloc o) b cs t := by
  have hl := h.lt
  unfold Has at h ⊢
  rw [Below.heap_alloc _ _ _ hl]; exact h
theorem Has.new (w : World) (b : Nat) (cs : Array Value) (t : TypeId) (hb : b = w.heap.size) : Has (w.alloc (.cells cs t)) b cs t := by
  subst hb
  unfold Has World.alloc; simp
theorem Has.drew {w : World} {b : Nat} {cs : Array Value} {t : TypeId} (h : Has w b cs t) : Has w.drew b cs t := h
theorem Has.drewN {w : World} {b : Nat} {cs : Array Value} {t : TypeId} (h : Has w b cs t) (n : Nat) : Has (w.drewN n) b cs t := h
theorem Has.below {w w' : World} {B b : Nat} {cs : Array Value} {t : TypeId} (h : Has w b cs t) (hb : Below B w w') (hl : b < B) : Has w' b cs t := by
  unfold Has at h ⊢; rw [hb.block b hl]; exact h
theorem below_setCells {B b : Nat} {a : World} (hb : B ≤ b) : ∀ (vs : List Value) (o : Nat) {w : World}, Below B a w → Below B a (w.setCells b o vs)
  | [], _, _, h => h
  | v :: r, o, _, h => by
    rw [World.setCells]
    exact below_setCells hb r (o + 1) (h.setCell hb v)
theorem has_setCells_other {b b' : Nat} {cs : Array Value} {t : TypeId} (hne : b ≠ b') : ∀ (vs : List Value) (o : Nat) {w : World}, Has w b cs t → Has (w.setCells b' o vs) b cs t
  | [], _, _, h => h
  | v :: r, o, _, h => by
    rw [World.setCells]
    exact has_setCells_other hne r (o + 1) (h.other _ _ hne)
theorem results_one_cell {fn : Func} {p : Tmp} {ty : TypeId} (h : fn.results = #[.cell p ty]) (tmps : Array Value) (P : Program) (w : World) :
    (results fn tmps).run P w = ((asAddr (tmps.getD p undef)).run P w).andThen fun a w₁ => (loadVar ty a).run P w₁ := by
  simp only [results, h]
  simp [Sem.run_bind, Result.andThen]
/-- a result that lies in memory, behind a store of the whole of it -/
theorem ret_row {P : Program} {v : Value} {w : World} {b : Nat} {cs : List Value} {ty : TypeId} {d : TypeDesc} (hv : v = .pointer (some ⟨b, 0, none⟩)) (hc : w.rangeAt b 0 cs)
    (hu : P.underlying ty = some d) (hd : d.isRow = true) (hi : (P.info? ty).map (·.size) = some cs.length) :
    (((asAddr v).run P w).andThen fun a w₁ => (loadVar ty a).run P w₁) = .ok (.agg cs.toArray) w := by
  subst hv
  exact run_loadVar_mid w b 0 ty cs d hc hu hd hi
theorem has_setCells_mid {b : Nat} {t : TypeId} : ∀ (vs : List Value) (o : Nat) (cs : List Value) {w : World}, Has w b cs.toArray t → o + vs.length ≤ cs.length → Has (w.setCells b o vs) b (cs.take o ++ vs ++ cs.drop (o + vs.length)).toArray t
  | [], o, cs, w, h, _ => by simpa [World.setCells] using h
  | v :: r, o, cs, w, h, hl => by
    rw [World.setCells]
    have h1 := h.set o v
    rw [List.setIfInBounds_toArray] at h1
    have h2 := has_setCells_mid r (o + 1) (cs.set o v) h1 (by simp at hl ⊢; omega)
    have e : (cs.set o v).take (o + 1) ++ r ++ (cs.set o v).drop (o + 1 + r.length) = cs.take o ++ (v :: r) ++ cs.drop (o + (v :: r).length) := by
      have ho : o < cs.length := by simp at hl; omega
      have e1 : (cs.set o v).take (o + 1) = cs.take o ++ [v] := by
        rw [List.take_succ_eq_append_getElem (by simpa using ho), List.take_set_of_le (Nat.le_refl _)]
        simp
      have e2 : (cs.set o v).drop (o + 1 + r.length) = cs.drop (o + (v :: r).length) := by
        rw [List.drop_set_of_lt (by omega)]; congr 1; simp; omega
      rw [e1, e2]; simp
    rw [e] at h2; exact h2
theorem has_setRow {b : Nat} {t : TypeId} {w : World} {cs vs : Array Value} (h : Has w b cs t) (hl : vs.size = cs.size) : Has (w.setCells b 0 vs.toList) b vs t := by
  have h1 := has_setCells_mid vs.toList 0 cs.toList (by simpa using h) (by simp [hl])
  have e : List.take 0 cs.toList ++ vs.toList ++ List.drop (0 + vs.toList.length) cs.toList = vs.toList := by
    rw [List.take_zero, List.drop_eq_nil_of_le (by simp [hl])]; simp
  rw [e] at h1; simpa using h1
/-- the world under a new name, with what is known of it -/
theorem gen_world {F G : World → Prop} {W : World} (h : F W) (k : ∀ W, F W → G W) : G W := k W h
/-- block b holds these cells, whatever may be written of them -/
def HasC (w : World) (b : Nat) (cs : Array Value) : Prop := ∃ t fr, w.heap[b]? = some (.cells cs t fr)
theorem HasC.lt {w : World} {b : Nat} {cs : Array Value} (h : HasC w b cs) : b < w.heap.size := by
  obtain ⟨t, fr, h⟩ := h; exact (Array.getElem?_eq_some_iff.1 h).1
theorem HasC.cell {w : World} {b : Nat} {cs : Array Value} (h : HasC w b cs) (i : Nat) : w.cell? ⟨b, i, none⟩ = cs[i]? := by
  obtain ⟨t, fr, h⟩ := h; simp [World.cell?, h]
theorem HasC.other {w : World} {b : Nat} {cs : Array Value} (h : HasC w b cs) (a : Addr) (v : Value) (hne : b ≠ a.block) : HasC (w.setCell a v) b cs := by
  obtain ⟨t, fr, h⟩ := h
  exact ⟨t, fr, by rw [Below.heap_setCell _ _ _ _ hne]; exact h⟩
theorem HasC.alloc {w : World} {b : Nat} {cs : Array Value} (h : HasC w b cs) (o : Obj) : HasC (w.alloc o) b cs := by
  have hl := h.lt
  obtain ⟨t, fr, h⟩ := h
  exact ⟨t, fr, by rw [Below.heap_alloc _ _ _ hl]; exact h⟩
theorem HasC.below {w w' : World} {B b : Nat} {cs : Array Value} (h : HasC w b cs) (hb : Below B w w') (hl : b < B) : HasC w' b cs := by
  obtain ⟨t, fr, h⟩ := h
  exact ⟨t, fr, by rw [hb.block b hl]; exact h⟩
theorem hasC_setCells_other {b b' : Nat} {cs : Array Value} (hne : b ≠ b') : ∀ (vs : List Value) (o : Nat) {w : World}, HasC w b cs → HasC (w.setCells b' o vs) b cs
  | [], _, _, h => h
  | v :: r, o, _, h => by
    rw [World.setCells]
    exact hasC_setCells_other hne r (o + 1) (h.other _ _ hne)
theorem below_draws {B : Nat} {w w' : World} (h : Below B w w') (n : Nat) : Below B w (w'.drewN n) := ⟨h.os, h.tape, h.output, h.size, h.block⟩
theorem Has.range {w : World} {b : Nat} {cs : Array Value} {t : TypeId} (h : Has w b cs t) : w.rangeAt b 0 cs.toList := fun j v hv => by
  rw [Nat.zero_add, h.cell]; simpa using hv
theorem Has.there {w : World} {b : Nat} {cs : Array Value} {t : TypeId} (h : Has w b cs t) (o n : Nat) (hn : o + n ≤ cs.size) : w.there b o n := fun j hj => by
  refine ⟨?_, h.frozen _⟩
  rw [h.cell]; simp; omega
end Go.Proofs.YtjhjolnflkekoaaDoor.S
