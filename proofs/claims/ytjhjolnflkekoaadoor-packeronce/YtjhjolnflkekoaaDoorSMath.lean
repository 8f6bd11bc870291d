/- Plain numbers: the digest of bytes by the document's words, over Nat, with no program in it. -/
import Derived.Laws.BitsAllLaws
namespace Go.Proofs.YtjhjolnflkekoaaDoor.S
namespace Sha
/-- a turn by n, of 32 bits -/
def rotr (x n : Nat) : Nat := x * 2 ^ (32 - n) % 4294967296 ||| x / 2 ^ n
theorem rotr_lt (x n : Nat) (hx : x < 4294967296) : rotr x n < 4294967296 := by
  unfold rotr
  have h : x * 2 ^ (32 - n) % 4294967296 ||| x / 2 ^ n < 2 ^ 32 :=
    Nat.or_lt_two_pow (by have := Nat.mod_lt (x * 2 ^ (32 - n)) (by decide : 0 < 4294967296); omega)
      (Nat.lt_of_le_of_lt (Nat.div_le_self _ _) (by omega))
  omega
def sig0 (p : Nat) : Nat := rotr p 7 ^^^ rotr p 18 ^^^ p / 8
def sig1 (q : Nat) : Nat := rotr q 17 ^^^ rotr q 19 ^^^ q / 1024
/-- the next of the 64 numbers, out of those ahead -/
def nextW (a b c d : Nat) : Nat := (((a + b) % 4294967296 + sig0 c) % 4294967296 + sig1 d) % 4294967296
/-- x and y of one round -/
def tX (e f g h k w : Nat) : Nat := ((((h + (rotr e 6 ^^^ rotr e 11 ^^^ rotr e 25)) % 4294967296 + (e &&& f ^^^ (4294967295 - e) &&& g)) % 4294967296 + k) % 4294967296 + w) % 4294967296
def tY (a b c : Nat) : Nat := ((rotr a 2 ^^^ rotr a 13 ^^^ rotr a 22) + (a &&& b ^^^ a &&& c ^^^ b &&& c)) % 4294967296
structure S8 where
  a : Nat
  b : Nat
  c : Nat
  d : Nat
  e : Nat
  f : Nat
  g : Nat
  h : Nat
def S8.ok (s : S8) : Prop := s.a < 4294967296 ∧ s.b < 4294967296 ∧ s.c < 4294967296 ∧ s.d < 4294967296 ∧ s.e < 4294967296 ∧ s.f < 4294967296 ∧ s.g < 4294967296 ∧ s.h < 4294967296
def rnd (s : S8) (k w : Nat) : S8 :=
  ⟨(tX s.e s.f s.g s.h k w + tY s.a s.b s.c) % 4294967296, s.a, s.b, s.c, (s.d + tX s.e s.f s.g s.h k w) % 4294967296, s.e, s.f, s.g⟩
theorem nextW_lt (a b c d : Nat) : nextW a b c d < 4294967296 := Nat.mod_lt _ (by decide)
theorem rnd_ok (s : S8) (k w : Nat) (h : s.ok) : (rnd s k w).ok :=
  ⟨Nat.mod_lt _ (by decide), h.1, h.2.1, h.2.2.1, Nat.mod_lt _ (by decide), h.2.2.2.2.1, h.2.2.2.2.2.1, h.2.2.2.2.2.2.1⟩
def cube : List Nat := [1116352408, 1899447441, 3049323471, 3921009573, 961987163, 1508970993, 2453635748, 2870763221, 3624381080, 310598401, 607225278, 1426881987, 1925078388, 2162078206, 2614888103, 3248222580, 3835390401, 4022224774, 264347078, 604807628, 770255983, 1249150122, 1555081692, 1996064986, 2554220882, 2821834349, 2952996808, 3210313671, 3336571891, 3584528711, 113926993, 338241895, 666307205, 773529912, 1294757372, 1396182291, 1695183700, 1986661051, 2177026350, 2456956037, 2730485921, 2820302411, 3259730800, 3345764771, 3516065817, 3600352804, 4094571909, 275423344, 430227734, 506948616, 659060556, 883997877, 958139571, 1322822218, 1537002063, 1747873779, 1955562222, 2024104815, 2227730452, 2361852424, 2428436474, 2756734187, 3204031479, 3329325298]
def init : S8 := ⟨1779033703, 3144134277, 1013904242, 2773480762, 1359893119, 2600822924, 528734635, 1541459225⟩
/-- four bytes are a number -/
def word (b : List Nat) (i : Nat) : Nat := b.getD (4 * i) 0 * 16777216 + b.getD (4 * i + 1) 0 * 65536 + b.getD (4 * i + 2) 0 * 256 + b.getD (4 * i + 3) 0
/-- the first n of a block's numbers -/
def firstWs (b : List Nat) (n : Nat) : List Nat := (List.range n).map (word b)
def grow (l : List Nat) : List Nat := l ++ [nextW (l.getD (l.length - 16) 0) (l.getD (l.length - 7) 0) (l.getD (l.length - 15) 0) (l.getD (l.length - 2) 0)]
def growN : Nat → List Nat → List Nat
  | 0, l => l
  | n + 1, l => grow (growN n l)
def ws (b : List Nat) : List Nat := growN 48 (firstWs b 16)
def rounds (k w : List Nat) : Nat → S8 → S8
  | 0, s => s
  | n + 1, s => rnd (rounds k w n s) (k.getD n 0) (w.getD n 0)
def plus (s t : S8) : S8 := ⟨(s.a + t.a) % 4294967296, (s.b + t.b) % 4294967296, (s.c + t.c) % 4294967296, (s.d + t.d) % 4294967296, (s.e + t.e) % 4294967296, (s.f + t.f) % 4294967296, (s.g + t.g) % 4294967296, (s.h + t.h) % 4294967296⟩
/-- what the eight numbers become by one block -/
def mix (s : S8) (b : List Nat) : S8 := plus s (rounds cube (ws b) 64 s)
def eatN : Nat → S8 → List Nat → S8
  | 0, s, _ => s
  | n + 1, s, l => eatN n (mix s (l.take 64)) (l.drop 64)
/-- what the eight numbers become by all whole blocks -/
def eat (s : S8) (l : List Nat) : S8 := eatN (l.length / 64) s l
def left (l : List Nat) : List Nat := l.drop (64 * (l.length / 64))
theorem rounds_ok (k w : List Nat) (n : Nat) (s : S8) (h : s.ok) : (rounds k w n s).ok := by
  induction n with
  | zero => exact h
  | succ n ih => exact rnd_ok _ _ _ ih
theorem plus_ok (s t : S8) : (plus s t).ok := by
  refine ⟨?_, ?_, ?_, ?_, ?_, ?_, ?_, ?_⟩ <;> exact Nat.mod_lt _ (by decide)
theorem mix_ok (s : S8) (b : List Nat) : (mix s b).ok := plus_ok _ _
theorem eatN_ok (n : Nat) (s : S8) (l : List Nat) (h : s.ok) : (eatN n s l).ok := by
  induction n generalizing s l with
  | zero => exact h
  | succ n ih => exact ih _ _ (mix_ok _ _)
theorem eat_ok (s : S8) (l : List Nat) (h : s.ok) : (eat s l).ok := eatN_ok _ _ _ h
theorem grow_length (l : List Nat) : (grow l).length = l.length + 1 := by simp [grow]
theorem growN_length (n : Nat) (l : List Nat) : (growN n l).length = l.length + n := by
  induction n with
  | zero => rfl
  | succ n ih => simp only [growN, grow_length, ih]; omega
theorem firstWs_length (b : List Nat) (n : Nat) : (firstWs b n).length = n := by simp [firstWs]
theorem ws_length (b : List Nat) : (ws b).length = 64 := by simp [ws, growN_length, firstWs_length]
theorem word_lt (b : List Nat) (h : ∀ x ∈ b, x < 256) (i : Nat) : word b i < 4294967296 := by
  have g : ∀ j, b.getD j 0 < 256 := by
    intro j
    rw [List.getD_eq_getElem?_getD]
    by_cases hj : j < b.length
    · rw [List.getElem?_eq_getElem hj]; exact h _ (List.getElem_mem hj)
    · rw [List.getElem?_eq_none (by omega)]; decide
  have a := g (4 * i); have b' := g (4 * i + 1); have c := g (4 * i + 2); have d := g (4 * i + 3)
  unfold word; omega
end Sha
end Go.Proofs.YtjhjolnflkekoaaDoor.S
