/- A frame's bytes, and what bytes that Read takes must be. No program in it. -/
import Derived.Test.YtnepfllbfagfnaaDoorSBad
namespace Go.Proofs.YtnepfllbfagfnaaDoor
open Go.RowKit
/-- whether a number may be an epoch or a generation -/
def okN (n : Int) : Bool := decide (0 ≤ n) && decide (n ≤ 2147483647)
/-- whether a frame may be -/
def okF (E G K N : Int) : Bool := okN E && okN G && okC K N
/-- a frame's bytes but for the digest -/
def pre (E G K N : Nat) (p : List Nat) : List Nat := [109, 97, 110, 49] ++ (be4 E ++ be4 G) ++ [K, N] ++ be4 p.length ++ p
/-- a frame's bytes -/
def dat (E G K N : Nat) (p : List Nat) : List Nat := pre E G K N p ++ Sha.digest (pre E G K N p)
/-- a frame, as cells -/
def frc (E G K N : Int) (p : ByteArray) : Array Value := #[.int .i64 E, .int .i64 G, .int .i64 K, .int .i64 N, .string p]
/-- Make's error -/
def mkE (E G K N : Int) (p : ByteArray) : Int := if okF E G K N then (if p.size ≤ 65486 then 0 else 40) else 1
/-- Make's bytes -/
def mkD (E G K N : Int) (p : ByteArray) : ByteArray := if mkE E G K N p = 0 then ofBs (dat E.toNat G.toNat K.toNat N.toNat (bs p)) else ⟨#[]⟩
/-- a byte -/
def fB (s : ByteArray) (j : Nat) : Int := (((bs s).getD j 0 : Nat) : Int)
/-- a number of 4 bytes -/
def n4 (l : List Nat) (j : Nat) : Nat := l.getD j 0 * 16777216 + l.getD (j + 1) 0 * 65536 + l.getD (j + 2) 0 * 256 + l.getD (j + 3) 0
def fN (s : ByteArray) (j : Nat) : Int := ((n4 (bs s) j : Nat) : Int)
def fP (s : ByteArray) : ByteArray := s.extract 18 (s.size - 32)
/-- whether bytes are a frame's -/
def rdOk (s : ByteArray) : Bool := decide (50 ≤ s.size) && (decide (mkE (fN s 4) (fN s 8) (fB s 12) (fB s 13) (fP s) = 0) && decide (mkD (fN s 4) (fN s 8) (fB s 12) (fB s 13) (fP s) = s))
theorem fB_byte (s : ByteArray) (j : Nat) : 0 ≤ fB s j ∧ fB s j < 256 := by
  unfold fB
  have := getD_lt (bs s) 256 (by decide) (bs_lt s) j
  omega
theorem okF_is {E G K N : Int} (h : okF E G K N = true) : ∃ e g k n : Nat, E = e ∧ G = g ∧ K = k ∧ N = n ∧ e < 2147483648 ∧ g < 2147483648 ∧ 1 ≤ k ∧ k ≤ n ∧ n ≤ 12 := by
  unfold okF okN okC at h
  simp only [Bool.and_eq_true, decide_eq_true_eq] at h
  refine ⟨E.toNat, G.toNat, K.toNat, N.toNat, ?_, ?_, ?_, ?_, ?_, ?_, ?_, ?_, ?_⟩ <;> omega
theorem mkE_zero {E G K N : Int} {p : ByteArray} : mkE E G K N p = 0 ↔ okF E G K N = true ∧ p.size ≤ 65486 := by
  unfold mkE
  by_cases h : okF E G K N = true
  · by_cases hp : p.size ≤ 65486
    · simp [h, hp]
    · simp [h, hp]
  · simp [h]
theorem be4_lt (n : Nat) : ∀ x ∈ be4 n, x < 256 := by
  intro x hx
  unfold be4 at hx
  simp only [List.mem_cons, List.not_mem_nil, or_false] at hx
  omega
theorem pre_length (E G K N : Nat) (p : List Nat) : (pre E G K N p).length = 18 + p.length := by
  unfold pre be4; simp; omega
theorem pre_lt {E G K N : Nat} {p : List Nat} (hK : K < 256) (hN : N < 256) (hp : ∀ x ∈ p, x < 256) : ∀ x ∈ pre E G K N p, x < 256 := by
  intro x hx
  unfold pre at hx
  simp only [List.mem_append, List.mem_cons, List.not_mem_nil, or_false] at hx
  rcases hx with (((hx | hx | hx) | hx) | hx) | hx
  · omega
  · exact be4_lt _ x hx
  · exact be4_lt _ x hx
  · omega
  · exact be4_lt _ x hx
  · exact hp x hx
theorem dat_lt {E G K N : Nat} {p : List Nat} (hK : K < 256) (hN : N < 256) (hp : ∀ x ∈ p, x < 256) : ∀ x ∈ dat E G K N p, x < 256 := by
  intro x hx
  unfold dat at hx
  rcases List.mem_append.1 hx with hx | hx
  · exact pre_lt hK hN hp x hx
  · exact digest_lt _ x hx
theorem dat_length (E G K N : Nat) (p : List Nat) : (dat E G K N p).length = 50 + p.length := by
  unfold dat; rw [List.length_append, pre_length, digest_length]; omega
theorem getD_app (a b : List Nat) (j : Nat) (h : j < a.length) : (a ++ b).getD j 0 = a.getD j 0 := by
  rw [List.getD_eq_getElem?_getD, List.getD_eq_getElem?_getD, List.getElem?_append_left h]
theorem n4_app (a b : List Nat) (j : Nat) (h : j + 3 < a.length) : n4 (a ++ b) j = n4 a j := by
  unfold n4
  rw [getD_app a b _ (by omega), getD_app a b _ (by omega), getD_app a b _ (by omega), getD_app a b _ (by omega)]
/-- what a frame's head tells -/
theorem pre_tells (E G K N : Nat) (p r : List Nat) : n4 (pre E G K N p ++ r) 4 = n4 (be4 E) 0 ∧ n4 (pre E G K N p ++ r) 8 = n4 (be4 G) 0 ∧ (pre E G K N p ++ r).getD 12 0 = K ∧ (pre E G K N p ++ r).getD 13 0 = N ∧ n4 (pre E G K N p ++ r) 14 = n4 (be4 p.length) 0 ∧ (pre E G K N p ++ r).take 4 = [109, 97, 110, 49] :=
  ⟨rfl, rfl, rfl, rfl, rfl, rfl⟩
theorem n4_be4 {n : Nat} (h : n < 4294967296) : n4 (be4 n) 0 = n := by
  show n / 16777216 % 256 * 16777216 + n / 65536 % 256 * 65536 + n / 256 % 256 * 256 + n % 256 = n
  omega
/-- bytes of a frame that may be -/
structure IsD (e g k n : Nat) (p s : ByteArray) : Prop where
  he : e < 2147483648
  hg : g < 2147483648
  hk : 1 ≤ k
  hkn : k ≤ n
  hn : n ≤ 12
  hp : p.size ≤ 65486
  hs : s = ofBs (dat e g k n (bs p))
theorem IsD.bytes {e g k n : Nat} {p s : ByteArray} (h : IsD e g k n p s) : bs s = dat e g k n (bs p) := by
  rw [h.hs]; exact bs_ofBs _ (dat_lt (by have := h.hkn; have := h.hn; omega) (by have := h.hn; omega) (bs_lt p))
theorem IsD.size {e g k n : Nat} {p s : ByteArray} (h : IsD e g k n p s) : s.size = 50 + p.size := by
  rw [← bs_length, h.bytes, dat_length, bs_length]
theorem IsD.tells {e g k n : Nat} {p s : ByteArray} (h : IsD e g k n p s) : fN s 4 = e ∧ fN s 8 = g ∧ fB s 12 = k ∧ fB s 13 = n ∧ n4 (bs s) 14 = p.size ∧ (bs s).take 4 = [109, 97, 110, 49] := by
  have t := pre_tells e g k n (bs p) (Sha.digest (pre e g k n (bs p)))
  obtain ⟨t1, t2, t3, t4, t5, t6⟩ := t
  have hb : bs s = pre e g k n (bs p) ++ Sha.digest (pre e g k n (bs p)) := h.bytes
  have hp := h.hp
  have he := h.he
  have hg := h.hg
  unfold fN fB
  rw [hb, t1, t2, t3, t4, t5, n4_be4 (by omega), n4_be4 (by omega), n4_be4 (by rw [bs_length]; omega), bs_length]
  exact ⟨rfl, rfl, rfl, rfl, rfl, t6⟩
theorem IsD.body {e g k n : Nat} {p s : ByteArray} (h : IsD e g k n p s) : fP s = p := by
  apply bs_inj
  unfold fP
  rw [bs_extract, h.bytes, h.size]
  have e1 : dat e g k n (bs p) = ([109, 97, 110, 49] ++ (be4 e ++ be4 g) ++ [k, n] ++ be4 (bs p).length) ++ (bs p ++ Sha.digest (pre e g k n (bs p))) := by
    unfold dat pre; simp only [List.append_assoc]
  rw [e1]
  have := mid_take ([109, 97, 110, 49] ++ (be4 e ++ be4 g) ++ [k, n] ++ be4 (bs p).length) (bs p) (Sha.digest (pre e g k n (bs p)))
  have l1 : ([109, 97, 110, 49] ++ (be4 e ++ be4 g) ++ [k, n] ++ be4 (bs p).length).length = 18 := rfl
  rw [l1] at this
  rw [show 50 + p.size - 32 = 18 + (bs p).length by rw [bs_length]; omega]
  exact this
theorem IsD.head {e g k n : Nat} {p s : ByteArray} (h : IsD e g k n p s) : (bs s).take (s.size - 32) = pre e g k n (bs p) ∧ (bs s).drop (s.size - 32) = Sha.digest (pre e g k n (bs p)) := by
  have hb : bs s = pre e g k n (bs p) ++ Sha.digest (pre e g k n (bs p)) := h.bytes
  have hl : s.size - 32 = (pre e g k n (bs p)).length := by rw [pre_length, bs_length, h.size]; omega
  rw [hl, hb]
  exact ⟨List.take_left, List.drop_left⟩
theorem mk_is {E G K N : Int} {p : ByteArray} (h : mkE E G K N p = 0) : ∃ e g k n : Nat, E = e ∧ G = g ∧ K = k ∧ N = n ∧ IsD e g k n p (mkD E G K N p) := by
  obtain ⟨h1, h2⟩ := mkE_zero.1 h
  obtain ⟨e, g, k, n, rfl, rfl, rfl, rfl, q1, q2, q3, q4, q5⟩ := okF_is h1
  refine ⟨e, g, k, n, rfl, rfl, rfl, rfl, q1, q2, q3, q4, q5, h2, ?_⟩
  unfold mkD
  rw [if_pos h]
  simp
theorem IsD.ok {e g k n : Nat} {p s : ByteArray} (h : IsD e g k n p s) : mkE e g k n p = 0 ∧ mkD e g k n p = s := by
  have h0 : mkE (e : Int) g k n p = 0 := by
    obtain ⟨h1, h2, h3, h4, h5, h6, h7⟩ := h
    rw [mkE_zero]
    refine ⟨?_, h6⟩
    unfold okF okN okC
    simp only [Bool.and_eq_true, decide_eq_true_eq]
    omega
  refine ⟨h0, ?_⟩
  unfold mkD
  rw [if_pos h0, h.hs]
  simp
/-- READ OF MAKE is the frame. -/
theorem IsD.read {e g k n : Nat} {p s : ByteArray} (h : IsD e g k n p s) : rdOk s = true := by
  obtain ⟨t1, t2, t3, t4, _⟩ := h.tells
  unfold rdOk
  rw [t1, t2, t3, t4, h.body, h.ok.1, h.ok.2, h.size]
  simp
theorem rd_is {s : ByteArray} (h : rdOk s = true) : ∃ e g k n : Nat, fN s 4 = e ∧ fN s 8 = g ∧ fB s 12 = k ∧ fB s 13 = n ∧ IsD e g k n (fP s) s := by
  unfold rdOk at h
  simp only [Bool.and_eq_true, decide_eq_true_eq] at h
  obtain ⟨e, g, k, n, q1, q2, q3, q4, q5⟩ := mk_is h.2.1
  refine ⟨e, g, k, n, q1, q2, q3, q4, ?_⟩
  rw [h.2.2] at q5
  exact q5
/-- what Read looks at, but for the digest -/
def hdOk (l : List Nat) (len : Nat) : Bool := decide (50 ≤ len) && decide (l.take 4 = [109, 97, 110, 49]) && decide (n4 l 4 < 2147483648) && decide (n4 l 8 < 2147483648) && decide (1 ≤ l.getD 12 0) && decide (l.getD 12 0 ≤ l.getD 13 0) && decide (l.getD 13 0 ≤ 12) && decide (n4 l 14 = len - 50)
theorem rd_head {s : ByteArray} (h : rdOk s = true) : hdOk (bs s) s.size = true := by
  obtain ⟨e, g, k, n, q1, q2, q3, q4, hd⟩ := rd_is h
  obtain ⟨_, _, _, _, t5, t6⟩ := hd.tells
  have h1 := hd.he
  have h2 := hd.hg
  have h3 := hd.hk
  have h4 := hd.hkn
  have h5 := hd.hn
  have h6 := hd.size
  have e1 : n4 (bs s) 4 = e := Int.ofNat_inj.mp q1
  have e2 : n4 (bs s) 8 = g := Int.ofNat_inj.mp q2
  have e3 : (bs s).getD 12 0 = k := Int.ofNat_inj.mp q3
  have e4 : (bs s).getD 13 0 = n := Int.ofNat_inj.mp q4
  clear q1 q2 q3 q4 hd
  unfold hdOk
  rw [t5, t6, e1, e2, e3, e4, h6]
  clear t5 t6 e1 e2 e3 e4 h6 h
  generalize (fP s).size = m
  have e5 : m = 50 + m - 50 := by omega
  have e6 : 50 ≤ 50 + m := by omega
  simp only [h1, h2, h3, h4, h5, e6, ← e5, decide_true, Bool.and_self]
theorem getD_take (l : List Nat) (j k : Nat) (h : j < k) : (l.take k).getD j 0 = l.getD j 0 := by
  rw [List.getD_eq_getElem?_getD, List.getD_eq_getElem?_getD, List.getElem?_take_of_lt h]
theorem n4_take (l : List Nat) (j k : Nat) (h : j + 3 < k) : n4 (l.take k) j = n4 l j := by
  unfold n4
  rw [getD_take l _ _ (by omega), getD_take l _ _ (by omega), getD_take l _ _ (by omega), getD_take l _ _ (by omega)]
/-- two texts that begin alike and have not the same length are not both a frame's -/
theorem rd_cut {s t : ByteArray} (h : rdOk s = true) (ht : (bs t).take 18 = (bs s).take 18) (hne : t.size ≠ s.size) : rdOk t = false := by
  cases hr : rdOk t with
  | false => rfl
  | true =>
    have h1 := rd_head h
    have h2 := rd_head hr
    unfold hdOk at h1 h2
    simp only [Bool.and_eq_true, decide_eq_true_eq] at h1 h2
    have e1 : n4 (bs t) 14 = n4 (bs s) 14 := by rw [← n4_take (bs t) 14 18 (by omega), ht, n4_take (bs s) 14 18 (by omega)]
    have a1 := h1.1.1.1.1.1.1.1
    have a2 := h2.1.1.1.1.1.1.1
    have b1 := h1.2
    have b2 := h2.2
    omega
theorem rd_short {s : ByteArray} (h : rdOk s = true) (k : Nat) (hk : k < s.size) : rdOk (s.extract 0 k) = false := by
  have h1 := rd_head h
  unfold hdOk at h1
  simp only [Bool.and_eq_true, decide_eq_true_eq] at h1
  have hz : (s.extract 0 k).size = k := by rw [ByteArray.size_extract]; omega
  by_cases hk2 : k < 18
  · cases hr : rdOk (s.extract 0 k) with
    | false => rfl
    | true =>
      have h2 := rd_head hr
      unfold hdOk at h2
      simp only [Bool.and_eq_true, decide_eq_true_eq] at h2
      have := h2.1.1.1.1.1.1.1
      omega
  · refine rd_cut h ?_ (by omega)
    rw [bs_extract, List.drop_zero, List.take_take, Nat.min_eq_left (by omega)]
theorem rd_long {s : ByteArray} (h : rdOk s = true) (t : ByteArray) (ht : t.size = 1) : rdOk (s ++ t) = false := by
  have h1 := rd_head h
  unfold hdOk at h1
  simp only [Bool.and_eq_true, decide_eq_true_eq] at h1
  have a1 := h1.1.1.1.1.1.1.1
  have hz : (s ++ t).size = s.size + 1 := by rw [ByteArray.size_append, ht]
  refine rd_cut h ?_ (by omega)
  rw [bs_append, List.take_append_of_le_length (by rw [bs_length]; omega)]
/-- another byte in the place of one of the digest's -/
theorem rd_bent {s t : ByteArray} (h : rdOk s = true) (k y : Nat) (hk : s.size - 32 ≤ k) (hk2 : k < s.size) (ht : bs t = (bs s).set k y) : rdOk t = decide ((bs s).getD k 0 = y) := by
  have hz : t.size = s.size := by rw [← bs_length, ht, List.length_set, bs_length]
  by_cases hy : (bs s).getD k 0 = y
  · have : bs t = bs s := by
      rw [ht, ← hy]
      apply List.ext_getElem?
      intro i
      rw [List.getElem?_set]
      by_cases hi : k = i
      · subst hi
        have : k < (bs s).length := by rw [bs_length]; exact hk2
        rw [if_pos rfl, if_pos this, List.getD_eq_getElem?_getD, List.getElem?_eq_getElem this]
        rfl
      · rw [if_neg hi]
    rw [bs_inj this, h]
    exact (decide_eq_true hy).symm
  · rw [decide_eq_false hy]
    cases hr : rdOk t with
    | false => rfl
    | true =>
      exfalso
      obtain ⟨e, g, j, n, _, _, _, _, h1⟩ := rd_is h
      obtain ⟨e', g', j', n', _, _, _, _, h2⟩ := rd_is hr
      have a := h1.head
      have b := h2.head
      rw [hz, ht, List.take_set_of_le (by omega)] at b
      have hp : pre e' g' j' n' (bs (fP t)) = pre e g j n (bs (fP s)) := b.1.symm.trans a.1
      have hd : ((bs s).set k y).drop (s.size - 32) = (bs s).drop (s.size - 32) := by rw [b.2, hp, a.2]
      have hall : (bs s).set k y = bs s := by
        rw [← List.take_append_drop (s.size - 32) ((bs s).set k y), hd, List.take_set_of_le (by omega), List.take_append_drop]
      exact hy (set_getD (by rw [bs_length]; exact hk2) hall)
/-- what Read tells -/
def noF : Array Value := frc 0 0 0 0 ⟨#[]⟩
def rdV (s : ByteArray) : Value := if rdOk s then .tuple #[.agg (frc (fN s 4) (fN s 8) (fB s 12) (fB s 13) (fP s)), .int .i64 0] else .tuple #[.agg noF, .int .i64 4]
/-- which stamp is less -/
def lessB (a b c d : Int) : Bool := decide (a < c) || (decide (a = c) && decide (b < d))
end Go.Proofs.YtnepfllbfagfnaaDoor
