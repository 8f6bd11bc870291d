/- the field of 256 numbers; stepping a matrix down; any K rows of a code can be turned about. No program in it. -/
namespace Go.Proofs.YteapbbaollmniaaGreatDoor.C
namespace Fld
def dbl (x : Nat) : Nat:=(x <<< 1) ^^^ (if x.testBit 7 then 285 else 0)
def pw : Nat -> Nat
 | 0=>1
 | n + 1=>dbl (pw n)
/-- what stands in a field's cells behind n rounds -/
def cellsAt : Nat -> List Nat
 | 0=>List.replicate 511 0
 | n + 1=>((cellsAt n).set n (pw n)).set (255 + pw n) n
def powers : List Nat:=[1,2,4,8,16,32,64,128,29,58,116,232,205,135,19,38,76,152,45,90,180,117,234,201,143,3,6,12,24,48,96,192,157,39,78,156,37,74,148,53,106,212,181,119,238,193,159,35,70,140,5,10,20,40,80,160,93,186,105,210,185,111,222,161,95,190,97,194,153,47,94,188,101,202,137,15,30,60,120,240,253,231,211,187,107,214,177,127,254,225,223,163,91,182,113,226,217,175,67,134,17,34,68,136,13,26,52,104,208,189,103,206,129,31,62,124,248,237,199,147,59,118,236,197,151,51,102,204,133,23,46,92,184,109,218,169,79,158,33,66,132,21,42,84,168,77,154,41,82,164,85,170,73,146,57,114,228,213,183,115,230,209,191,99,198,145,63,126,252,229,215,179,123,246,241,255,227,219,171,75,150,49,98,196,149,55,110,220,165,87,174,65,130,25,50,100,200,141,7,14,28,56,112,224,221,167,83,166,81,162,89,178,121,242,249,239,195,155,43,86,172,69,138,9,18,36,72,144,61,122,244,245,247,243,251,235,203,139,11,22,44,88,176,125,250,233,207,131,27,54,108,216,173,71,142]
def logs : List Nat:=[0,0,1,25,2,50,26,198,3,223,51,238,27,104,199,75,4,100,224,14,52,141,239,129,28,193,105,248,200,8,76,113,5,138,101,47,225,36,15,33,53,147,142,218,240,18,130,69,29,181,194,125,106,39,249,185,201,154,9,120,77,228,114,166,6,191,139,98,102,221,48,253,226,152,37,179,16,145,34,136,54,208,148,206,143,150,219,189,241,210,19,92,131,56,70,64,30,66,182,163,195,72,126,110,107,58,40,84,250,133,186,61,202,94,155,159,10,21,121,43,78,212,229,172,115,243,167,87,7,112,192,247,140,128,99,13,103,74,222,237,49,197,254,24,227,165,153,119,38,184,180,124,17,68,146,217,35,32,137,46,55,63,209,91,149,188,207,205,144,135,151,178,220,252,190,97,242,86,211,171,20,42,93,158,132,60,57,83,71,109,65,162,31,45,67,216,183,123,164,118,196,23,73,236,127,12,111,246,108,161,59,82,41,157,85,170,251,96,134,177,187,204,62,90,203,89,95,176,156,169,160,81,11,245,22,235,122,117,44,215,79,174,213,233,230,231,173,232,116,214,244,234,168,80,88,175]
def pwr (n : Nat) : Nat:=powers.getD n 0
def lg (a : Nat) : Nat:=logs.getD a 0
set_option maxRecDepth 100000 in
theorem cells_end : cellsAt 255 = powers ++ logs:=by decide +kernel
set_option maxRecDepth 100000 in
theorem pw_pwr0 : ∀ n : Fin 255,pw n.val = pwr n.val:=by decide +kernel
set_option maxRecDepth 100000 in
theorem pwr_facts0 : ∀ n : Fin 255,pwr n.val < 256 /\ pwr n.val ≠ 0 /\ lg (pwr n.val) = n.val /\ pwr ((n.val + 1) % 255) = dbl (pwr n.val):=by decide +kernel
set_option maxRecDepth 100000 in
theorem lg_facts0 : ∀ a : Fin 256,lg a.val < 255 /\ (a.val ≠ 0 -> pwr (lg a.val) = a.val):=by decide +kernel
set_option maxRecDepth 100000 in
theorem dbl_facts0 : ∀ a : Fin 256,dbl a.val < 256 /\ dbl a.val = (if 256 <= a.val * 2 then (a.val * 2) ^^^ 285 else a.val * 2):=by decide +kernel
end Fld
end Go.Proofs.YteapbbaollmniaaGreatDoor.C
namespace Go.Proofs.YteapbbaollmniaaGreatDoor.C
namespace Fld
theorem pw_pwr {n : Nat} (h : n < 255) : pw n = pwr n:=pw_pwr0 ⟨n,h⟩
theorem pwr_lt {n : Nat} (h : n < 255) : pwr n < 256:=(pwr_facts0 ⟨n,h⟩).1
theorem pwr_ne {n : Nat} (h : n < 255) : pwr n ≠ 0:=(pwr_facts0 ⟨n,h⟩).2.1
theorem lg_pwr {n : Nat} (h : n < 255) : lg (pwr n) = n:=(pwr_facts0 ⟨n,h⟩).2.2.1
theorem pwr_succ {n : Nat} (h : n < 255) : pwr ((n + 1) % 255) = dbl (pwr n):=(pwr_facts0 ⟨n,h⟩).2.2.2
theorem lg_lt {a : Nat} (h : a < 256) : lg a < 255:=(lg_facts0 ⟨a,h⟩).1
theorem pwr_lg {a : Nat} (h : a < 256) (h0 : a ≠ 0) : pwr (lg a) = a:=(lg_facts0 ⟨a,h⟩).2 h0
theorem m255 (n : Nat) : n % 255 < 255:=Nat.mod_lt _ (by decide)
theorem pwr_one : pwr 0 = 1:=by decide
theorem lg_one : lg 1 = 0:=by decide
/-- a product -/
def mul (a b : Nat) : Nat:=if a = 0 \/ b = 0 then 0 else pwr ((lg a + lg b) % 255)
def inv (a : Nat) : Nat:=pwr ((255 - lg a) % 255)
def exp (n : Int) : Nat:=pwr (n % 255).toNat
theorem mul_lt (a b : Nat) : mul a b < 256:=by
 unfold mul; split
 ·decide
 ·exact pwr_lt (m255 _)
theorem mul_zero (a : Nat) : mul a 0 = 0:=by simp [mul]
theorem zero_mul (a : Nat) : mul 0 a = 0:=by simp [mul]
theorem mul_comm (a b : Nat) : mul a b = mul b a:=by
 unfold mul; rw [Nat.add_comm (lg a)]; simp only [or_comm (a:=a = 0)]
theorem mul_nz {a b : Nat} (ha : a ≠ 0) (hb : b ≠ 0) : mul a b = pwr ((lg a + lg b) % 255):=by simp [mul,ha,hb]
theorem mul_ne {a b : Nat} (ha : a ≠ 0) (hb : b ≠ 0) : mul a b ≠ 0:=by rw [mul_nz ha hb]; exact pwr_ne (m255 _)
theorem mul_one {a : Nat} (h : a < 256) : mul a 1 = a:=by
 by_cases h0 : a = 0
 ·subst h0; rfl
 ·rw [mul_nz h0 (by decide),lg_one,Nat.add_zero,Nat.mod_eq_of_lt (lg_lt h),pwr_lg h h0]
theorem mul_assoc {a b c : Nat} (ha : a < 256) (hb : b < 256) (hc : c < 256) : mul (mul a b) c = mul a (mul b c):=by
 by_cases a0 : a = 0
 ·subst a0; simp [zero_mul]
 by_cases b0 : b = 0
 ·subst b0; simp [zero_mul,mul_zero]
 by_cases c0 : c = 0
 ·subst c0; simp [mul_zero]
 rw [mul_nz (mul_ne a0 b0) c0,mul_nz a0 (mul_ne b0 c0),mul_nz a0 b0,mul_nz b0 c0,lg_pwr (m255 _),lg_pwr (m255 _)]
 congr 1; omega
theorem mul_inv {a : Nat} (h : a < 256) (h0 : a ≠ 0) : mul a (inv a) = 1:=by
 have:=lg_lt h
 unfold inv
 rw [mul_nz h0 (pwr_ne (m255 _)),lg_pwr (m255 _),<- pwr_one]
 congr 1; omega
theorem inv_lt (a : Nat) : inv a < 256:=pwr_lt (m255 _)
theorem inv_ne (a : Nat) : inv a ≠ 0:=pwr_ne (m255 _)
/-- doubled so often -/
def dbls : Nat -> Nat -> Nat
 | 0,x=>x
 | n + 1,x=>dbl (dbls n x)
theorem xor_ac (a b c d : Nat) : (a ^^^ b) ^^^ (c ^^^ d) = (a ^^^ c) ^^^ (b ^^^ d):=by
 rw [Nat.xor_assoc,Nat.xor_assoc,<- Nat.xor_assoc b c d,Nat.xor_comm b c,Nat.xor_assoc c b d]
theorem ite_xor (p q : Bool) (c : Nat) : (if (p ^^ q) = true then c else 0) = (if p = true then c else 0) ^^^ (if q = true then c else 0):=by
 cases p <;> cases q <;> simp
theorem dbl_xor (x y : Nat) : dbl (x ^^^ y) = dbl x ^^^ dbl y:=by
 unfold dbl
 rw [Nat.testBit_xor,ite_xor,Nat.shiftLeft_xor_distrib,xor_ac]
theorem dbls_xor (n x y : Nat) : dbls n (x ^^^ y) = dbls n x ^^^ dbls n y:=by
 induction n with
 | zero=>rfl
 | succ n ih=>simp only [dbls,ih,dbl_xor]
theorem dbls_zero (n : Nat) : dbls n 0 = 0:=by
 induction n with
 | zero=>rfl
 | succ n ih=>simp only [dbls,ih]; rfl
theorem pwr_dbls (n k : Nat) : pwr ((n + k) % 255) = dbls n (pwr (k % 255)):=by
 induction n with
 | zero=>simp [dbls]
 | succ n ih=>rw [dbls,<- ih,<- pwr_succ (m255 _)]; congr 1; omega
theorem mul_dbls {a b : Nat} (hb : b < 256) (h0 : a ≠ 0) : mul a b = dbls (lg a) b:=by
 by_cases b0 : b = 0
 ·subst b0; rw [mul_zero,dbls_zero]
 ·rw [mul_nz h0 b0,pwr_dbls,Nat.mod_eq_of_lt (lg_lt hb),pwr_lg hb b0]
theorem xor_lt {a b : Nat} (ha : a < 256) (hb : b < 256) : a ^^^ b < 256:=Nat.xor_lt_two_pow (n:=8) ha hb
theorem mul_xor {a b c : Nat} (hb : b < 256) (hc : c < 256) : mul a (b ^^^ c) = mul a b ^^^ mul a c:=by
 by_cases h0 : a = 0
 ·subst h0; simp [zero_mul]
 ·rw [mul_dbls (xor_lt hb hc) h0,mul_dbls hb h0,mul_dbls hc h0,dbls_xor]
end Fld
end Go.Proofs.YteapbbaollmniaaGreatDoor.C
namespace Go.Proofs.YteapbbaollmniaaGreatDoor.C
namespace El
open Fld
/-- a matrix: what stands in a row, at a column -/
abbrev M:=Nat -> Nat -> Nat
def B1 (u : Nat -> Nat) : Prop:=∀ j,u j < 256
def Byt (f : M) : Prop:=∀ i j,f i j < 256
def raiseF (d p : Nat) (f : M) : M:=fun i j=>if i = d then f p j else if d < i /\ i <= p then f (i - 1) j else f i j
def oneF (d c : Nat) (f : M) : M:=fun i j=>if i = d then mul (f d j) (inv (f d c)) else f i j
def offF (d c i : Nat) (f : M) : M:=fun k j=>if k = i then f i j ^^^ mul (f i c) (f d j) else f k j
/-- the first n rows, but row d, are done -/
def offT (d c n : Nat) (f : M) : M:=fun i j=>if i < n /\ i ≠ d then f i j ^^^ mul (f i c) (f d j) else f i j
def seek (f : M) (c : Nat) : Nat -> Nat -> Nat
 | 0,i=>i
 | n + 1,i=>if f i c = 0 then seek f c n (i + 1) else i
def gone (R d c p : Nat) (f : M) : M:=offT d c R (oneF d c (raiseF d p f))
def step (R c : Nat) (s : M × Nat) : M × Nat :=
 if seek s.1 c (R - s.2) s.2 < R then (gone R s.2 c (seek s.1 c (R - s.2) s.2) s.1,s.2 + 1) else s
def steps (R : Nat) (f : M) : Nat -> M × Nat
 | 0=>(f,0)
 | c + 1=>step R c (steps R f c)
theorem offT_zero (d c : Nat) (f : M) : offT d c 0 f = f:=by
 funext i j; simp [offT]
theorem offT_succ (d c n : Nat) (f : M) : offT d c (n + 1) f = if n = d then offT d c n f else offF d c n (offT d c n f):=by
 funext i j
 by_cases hn : n = d
 ·rw [if_pos hn]; unfold offT
  by_cases hi : i < n /\ i ≠ d
  ·rw [if_pos hi,if_pos ⟨by omega,hi.2⟩]
  ·rw [if_neg hi,if_neg (by omega)]
 ·rw [if_neg hn]; unfold offF
  have e1 : ∀ j,offT d c n f n j = f n j:=fun j=>by unfold offT; rw [if_neg (by omega)]
  have e2 : ∀ j,offT d c n f d j = f d j:=fun j=>by unfold offT; rw [if_neg (by omega)]
  by_cases hi : i = n
  ·subst hi; rw [if_pos rfl,e1,e1,e2]; unfold offT; rw [if_pos ⟨by omega,hn⟩]
  ·rw [if_neg hi]; unfold offT
   by_cases h2 : i < n /\ i ≠ d
   ·rw [if_pos h2,if_pos ⟨by omega,h2.2⟩]
   ·rw [if_neg h2,if_neg (by omega)]
theorem byt_raise {f : M} (h : Byt f) (d p : Nat) : Byt (raiseF d p f):=fun i j=>by
 unfold raiseF; split
 ·exact h _ _
 ·split <;> exact h _ _
theorem byt_one {f : M} (h : Byt f) (d c : Nat) : Byt (oneF d c f):=fun i j=>by
 unfold oneF; split
 ·exact mul_lt _ _
 ·exact h _ _
theorem byt_offT {f : M} (h : Byt f) (d c n : Nat) : Byt (offT d c n f):=fun i j=>by
 unfold offT; split
 ·exact xor_lt (h _ _) (mul_lt _ _)
 ·exact h _ _
theorem byt_gone {f : M} (h : Byt f) (R d c p : Nat) : Byt (gone R d c p f):=byt_offT (byt_one (byt_raise h _ _) _ _) _ _ _
theorem seek_spec (f : M) (c : Nat) : ∀ n i,i <= seek f c n i /\ seek f c n i <= i + n /\ (seek f c n i < i + n -> f (seek f c n i) c ≠ 0) /\ ∀ k,i <= k -> k < seek f c n i -> f k c = 0
 | 0,i=>⟨Nat.le_refl _,Nat.le_refl _,fun h=>absurd h (by simp [seek]),fun k h1 h2=>absurd h2 (by simp [seek]; omega)⟩
 | n + 1,i=>by
  by_cases h : f i c = 0
  ·have ih:=seek_spec f c n (i + 1)
   have e : seek f c (n + 1) i = seek f c n (i + 1):=by rw [seek,if_pos h]
   rw [e]
   refine ⟨by omega,by omega,fun hh=>ih.2.2.1 (by omega),fun k h1 h2=>?_⟩
   by_cases hk : k = i
   ·subst hk; exact h
   ·exact ih.2.2.2 k (by omega) h2
  ·have e : seek f c (n + 1) i = i:=by rw [seek,if_neg h]
   rw [e]
   exact ⟨Nat.le_refl _,by omega,fun _=>h,fun k h1 h2=>by omega⟩
theorem seek_at (f : M) (c d i n : Nat) (hn : i < d + n) (hd : d <= i) (h0 : ∀ k,d <= k -> k < i -> f k c = 0) (h : f i c ≠ 0) : seek f c n d = i:=by
 have s:=seek_spec f c n d
 by_cases h1 : seek f c n d < i
 ·exact absurd (h0 _ s.1 h1) (s.2.2.1 (by omega))
 ·by_cases h2 : i < seek f c n d
  ·exact absurd (s.2.2.2 i hd h2) h
  ·omega
theorem seek_none (f : M) (c d n : Nat) (h0 : ∀ k,d <= k -> k < d + n -> f k c = 0) : seek f c n d = d + n:=by
 have s:=seek_spec f c n d
 by_cases h1 : seek f c n d < d + n
 ·exact absurd (h0 _ s.1 h1) (s.2.2.1 h1)
 ·omega
theorem step_at (R c d i : Nat) (f : M) (hi : i < R) (hd : d <= i) (h0 : ∀ k,d <= k -> k < i -> f k c = 0) (h : f i c ≠ 0) : step R c (f,d) = (gone R d c i f,d + 1):=by
 unfold step
 rw [seek_at f c d i (R - d) (by omega) hd h0 h,if_pos hi]
theorem step_none (R c d : Nat) (f : M) (hd : d <= R) (h0 : ∀ k,d <= k -> k < R -> f k c = 0) : step R c (f,d) = (f,d):=by
 unfold step
 rw [seek_none f c d (R - d) (fun k h1 h2=>h0 k h1 (by omega)),if_neg (by show ¬ d + (R - d) < R; omega)]
/-- what one step is: nothing, or a row that is done -/
theorem step_cases (R c : Nat) (f : M) (d : Nat) (hd : d <= R) : (step R c (f,d) = (f,d) /\ ∀ k,d <= k -> k < R -> f k c = 0) \/ ∃ p,d <= p /\ p < R /\ f p c ≠ 0 /\ step R c (f,d) = (gone R d c p f,d + 1):=by
 have s:=seek_spec f c (R - d) d
 by_cases h : seek f c (R - d) d < R
 ·exact .inr ⟨_,s.1,h,s.2.2.1 (by omega),by unfold step; rw [if_pos h]⟩
 ·exact .inl ⟨by unfold step; rw [if_neg h],fun k h1 h2=>s.2.2.2 k h1 (by omega)⟩
theorem raise_at (d p : Nat) (f : M) (j : Nat) : raiseF d p f d j = f p j:=by unfold raiseF; rw [if_pos rfl]
theorem gone_d (R d c p : Nat) (f : M) (j : Nat) : gone R d c p f d j = mul (f p j) (inv (f p c)):=by
 unfold gone offT; rw [if_neg (by omega)]; unfold oneF; rw [if_pos rfl,raise_at,raise_at]
theorem gone_o (R d c p : Nat) (f : M) (i j : Nat) (hi : i < R) (hd : i ≠ d) : gone R d c p f i j = raiseF d p f i j ^^^ mul (raiseF d p f i c) (mul (f p j) (inv (f p c))):=by
 unfold gone offT; rw [if_pos ⟨hi,hd⟩]
 have e : ∀ j,oneF d c (raiseF d p f) i j = raiseF d p f i j:=fun j=>by unfold oneF; rw [if_neg hd]
 rw [e,e]; unfold oneF; rw [if_pos rfl,raise_at,raise_at]
theorem gone_c (R d c p : Nat) (f : M) (i : Nat) (hb : Byt f) (hi : i < R) (h : f p c ≠ 0) : gone R d c p f i c = if i = d then 1 else 0:=by
 by_cases hd : i = d
 ·subst hd; rw [if_pos rfl,gone_d,mul_inv (hb _ _) h]
 ·rw [if_neg hd,gone_o R d c p f i c hi hd,mul_inv (hb _ _) h,mul_one (byt_raise hb _ _ _ _),Nat.xor_self]
theorem raise_zero {R d p : Nat} {f : M} {j : Nat} (h : ∀ i,d <= i -> i < R -> f i j = 0) (hp : p < R) (hdp : d <= p) (i : Nat) (hi : d <= i) (hR : i < R) : raiseF d p f i j = 0:=by
 unfold raiseF; split
 ·exact h p hdp hp
 ·split
  ·exact h _ (by omega) (by omega)
  ·exact h _ hi hR
theorem raise_low {d p i : Nat} {f : M} {j : Nat} (hi : i < d) : raiseF d p f i j = f i j:=by
 unfold raiseF; rw [if_neg (by omega),if_neg (by omega)]
/-- ahead of the column nothing stands in what is not done; where all columns had a row, it is 1 where row and column are the same -/
structure Inv (R c : Nat) (s : M × Nat) : Prop where
 byt : Byt s.1
 le : s.2 <= R
 lec : s.2 <= c
 zero : ∀ i,s.2 <= i -> i < R -> ∀ j,j < c -> s.1 i j = 0
 unit : s.2 = c -> ∀ i,i < R -> ∀ j,j < c -> s.1 i j = if i = j then 1 else 0
theorem inv_start (R : Nat) (f : M) (hb : Byt f) : Inv R 0 (f,0):=⟨hb,Nat.zero_le _,Nat.le_refl _,fun _ _ _ j hj=>absurd hj (by omega),fun _ _ _ j hj=>absurd hj (by omega)⟩
theorem inv_step (R c : Nat) (s : M × Nat) (h : Inv R c s) : Inv R (c + 1) (step R c s):=by
 obtain ⟨f,d⟩:=s
 obtain ⟨h1,h2,h3,h4,h5⟩:=h
 simp only at h1 h2 h3 h4 h5
 rcases step_cases R c f d h2 with ⟨e,h0⟩ | ⟨p,hdp,hp,hne,e⟩
 ·rw [e]
  refine ⟨h1,h2,by show d <= c + 1; omega,fun i hi hR j hj=>?_,fun hd=>absurd hd (by show d ≠ c + 1; omega)⟩
  by_cases hjc : j = c
  ·subst hjc; exact h0 i hi hR
  ·exact h4 i hi hR j (by omega)
 ·rw [e]
  have hz : ∀ j,j < c -> f p j = 0:=fun j hj=>h4 p hdp hp j hj
  have hg : ∀ i,i < R -> ∀ j,j < c -> gone R d c p f i j = raiseF d p f i j:=fun i hi j hj=>by
   by_cases hd : i = d
   ·subst hd; rw [gone_d,raise_at,hz j hj,zero_mul]
   ·rw [gone_o R d c p f i j hi hd,hz j hj,zero_mul,mul_zero,Nat.xor_zero]
  refine ⟨byt_gone h1 _ _ _ _,by show d + 1 <= R; omega,by show d + 1 <= c + 1; omega,fun i hi hR j hj=>?_,fun hd i hi j hj=>?_⟩
  ·have hi' : d + 1 <= i:=hi
   show gone R d c p f i j = 0
   by_cases hjc : j = c
   ·subst hjc; rw [gone_c R d j p f i h1 hR hne,if_neg (by omega)]
   ·rw [hg i hR j (by omega)]; exact raise_zero (fun k k1 k2=>h4 k k1 k2 j (by omega)) hp hdp i (by omega) hR
  ·have hd' : d = c:=by have : d + 1 = c + 1:=hd; omega
   show gone R d c p f i j = _
   by_cases hjc : j = c
   ·subst hjc; rw [gone_c R d j p f i h1 hi hne,hd']
   ·rw [hg i hi j (by omega)]
    by_cases hid : i < d
    ·rw [raise_low hid]; exact h5 hd' i hi j (by omega)
    ·rw [raise_zero (fun k k1 k2=>h4 k k1 k2 j (by omega)) hp hdp i (by omega) hi,if_neg (by omega)]
theorem inv_steps (R : Nat) (f : M) (hb : Byt f) : ∀ c,Inv R c (steps R f c)
 | 0=>inv_start R f hb
 | c + 1=>inv_step R c _ (inv_steps R f hb c)
/-- columns chosen: the same steps -/
def Agree (R : Nat) (J : Nat -> Prop) (s : Nat -> Nat) (f f' : M) : Prop:=∀ i,i < R -> ∀ j,J j -> f' i j = f i (s j)
theorem seek_agree {R : Nat} {J : Nat -> Prop} {s : Nat -> Nat} {f f' : M} (h : Agree R J s f f') {c : Nat} (hc : J c) (hs : s c = c) : ∀ n i,i + n <= R -> seek f' c n i = seek f c n i
 | 0,i,_=>rfl
 | n + 1,i,hi=>by
  have e : f' i c = f i c:=by rw [h i (by omega) c hc,hs]
  unfold seek; rw [e,seek_agree h hc hs n (i + 1) (by omega)]
theorem raise_agree {R : Nat} {J : Nat -> Prop} {s : Nat -> Nat} {f f' : M} (h : Agree R J s f f') {d p : Nat} (hp : p < R) : Agree R J s (raiseF d p f) (raiseF d p f'):=fun i hi j hj=>by
 unfold raiseF; split
 ·exact h p hp j hj
 ·split
  ·exact h _ (by omega) j hj
  ·exact h _ hi j hj
theorem gone_agree {R : Nat} {J : Nat -> Prop} {s : Nat -> Nat} {f f' : M} (h : Agree R J s f f') {d c p : Nat} (hc : J c) (hs : s c = c) (hp : p < R) : Agree R J s (gone R d c p f) (gone R d c p f'):=fun i hi j hj=>by
 have e : f' p c = f p c:=by rw [h p hp c hc,hs]
 by_cases hd : i = d
 ·subst hd; rw [gone_d,gone_d,h p hp j hj,e]
 ·have hr:=raise_agree h (d:=d) hp
  rw [gone_o R d c p f' i j hi hd,gone_o R d c p f i (s j) hi hd,hr i hi j hj,hr i hi c hc,hs,h p hp j hj,e]
theorem steps_agree {R n : Nat} {J : Nat -> Prop} {s : Nat -> Nat} {f f' : M} (hJ : ∀ j,j < n -> J j /\ s j = j) (hb : Byt f) (h : Agree R J s f f') : ∀ c,c <= n -> (steps R f' c).2 = (steps R f c).2 /\ Agree R J s (steps R f c).1 (steps R f' c).1
 | 0,_=>⟨rfl,h⟩
 | c + 1,hc=>by
  obtain ⟨i1,i2⟩:=steps_agree hJ hb h c (by omega)
  have hi:=inv_steps R f hb c
  obtain ⟨j1,j2⟩:=hJ c (by omega)
  have hle:=hi.le
  simp only [steps,step]
  rw [i1,seek_agree i2 j1 j2 (R - (steps R f c).2) (steps R f c).2 (by omega)]
  by_cases hs : seek (steps R f c).1 c (R - (steps R f c).2) (steps R f c).2 < R
  ·rw [if_pos hs,if_pos hs]; exact ⟨rfl,gone_agree i2 j1 j2 hs⟩
  ·rw [if_neg hs,if_neg hs]; exact ⟨i1,i2⟩
/-- behind the last row nothing turns -/
theorem steps_stop (R : Nat) (f : M) (c : Nat) (h : (steps R f c).2 = R) : ∀ k,steps R f (c + k) = steps R f c
 | 0=>rfl
 | k + 1=>by
  have ih:=steps_stop R f c h k
  show step R (c + k) (steps R f (c + k)) = _
  rw [ih]
  have:=step_none R (c + k) R (steps R f c).1 (Nat.le_refl _) (fun k h1 h2=>by omega)
  have e : steps R f c = ((steps R f c).1,R):=Prod.ext rfl h
  rw [e]; exact this
end El
end Go.Proofs.YteapbbaollmniaaGreatDoor.C
namespace Go.Proofs.YteapbbaollmniaaGreatDoor.C
namespace El
open Fld
structure Lin (P : (Nat -> Nat) -> Prop) : Prop where
 sc : ∀ a u,a < 256 -> B1 u -> P u -> P (fun j=>mul (u j) a)
 ad : ∀ b u v,b < 256 -> B1 u -> B1 v -> P u -> P v -> P (fun j=>u j ^^^ mul b (v j))
/-- where row i of the raised ones stood -/
def was (d p i : Nat) : Nat:=if i = d then p else if d < i /\ i <= p then i - 1 else i
theorem raise_was (d p : Nat) (f : M) (i : Nat) : raiseF d p f i = f (was d p i):=by
 unfold raiseF was; split
 ·rfl
 ·split <;> rfl
theorem was_lt {R d p i : Nat} (hp : p < R) (hi : i < R) : was d p i < R:=by unfold was; split <;> (try split) <;> omega
theorem was_inj {d p i k : Nat} (hd : d <= p) (h : was d p i = was d p k) : i = k:=by
 unfold was at h
 by_cases h1 : i = d
 ·rw [if_pos h1] at h
  by_cases h2 : k = d
  ·omega
  ·rw [if_neg h2] at h
   by_cases h4 : d < k /\ k <= p
   ·rw [if_pos h4] at h; omega
   ·rw [if_neg h4] at h; omega
 ·rw [if_neg h1] at h
  by_cases h3 : d < i /\ i <= p
  ·rw [if_pos h3] at h
   by_cases h2 : k = d
   ·rw [if_pos h2] at h; omega
   ·rw [if_neg h2] at h
    by_cases h4 : d < k /\ k <= p
    ·rw [if_pos h4] at h; omega
    ·rw [if_neg h4] at h; omega
  ·rw [if_neg h3] at h
   by_cases h2 : k = d
   ·rw [if_pos h2] at h; omega
   ·rw [if_neg h2] at h
    by_cases h4 : d < k /\ k <= p
    ·rw [if_pos h4] at h; omega
    ·rw [if_neg h4] at h; omega
theorem lin_fwd {P : (Nat -> Nat) -> Prop} (hP : Lin P) {R d c p : Nat} {f : M} (hb : Byt f) (hp : p < R) (hR : d <= p) (h : ∀ i,i < R -> P (f i)) : ∀ i,i < R -> P (gone R d c p f i):=fun i hi=>by
 have hd : P (gone R d c p f d):=by
  have e : gone R d c p f d = fun j=>mul (f p j) (inv (f p c)):=funext fun j=>gone_d R d c p f j
  rw [e]; exact hP.sc _ _ (inv_lt _) (hb p) (h p hp)
 by_cases hid : i = d
 ·subst hid; exact hd
 ·have hr : P (raiseF d p f i):=by
   rw [raise_was]; exact h _ (was_lt hp hi)
  have e : gone R d c p f i = fun j=>raiseF d p f i j ^^^ mul (raiseF d p f i c) (gone R d c p f d j):=funext fun j=>by
   rw [gone_o R d c p f i j hi hid,gone_d]
  rw [e]
  exact hP.ad _ _ _ (byt_raise hb _ _ _ _) (byt_raise hb _ _ i) (byt_gone hb R d c p d) hr hd
theorem mul_inv_back {x a : Nat} (hx : x < 256) (ha : a < 256) (h0 : a ≠ 0) : mul (mul x (inv a)) a = x:=by
 rw [mul_assoc hx (inv_lt a) ha,mul_comm (inv a) a,mul_inv ha h0,mul_one hx]
theorem lin_bwd {P : (Nat -> Nat) -> Prop} (hP : Lin P) {R d c p : Nat} {f : M} (hb : Byt f) (hp : p < R) (hR : d <= p) (hne : f p c ≠ 0) (h : ∀ i,i < R -> P (gone R d c p f i)) : ∀ i,i < R -> P (f i):=by
 have hpp : P (f p):=by
  have e : f p = fun j=>mul (gone R d c p f d j) (f p c):=funext fun j=>by
   rw [gone_d,mul_inv_back (hb _ _) (hb _ _) hne]
  rw [e]; exact hP.sc _ _ (hb _ _) (byt_gone hb R d c p d) (h d (by omega))
 have hr : ∀ i,i < R -> i ≠ d -> P (raiseF d p f i):=fun i hi hid=>by
  have e : raiseF d p f i = fun j=>gone R d c p f i j ^^^ mul (raiseF d p f i c) (gone R d c p f d j):=funext fun j=>by
   rw [gone_o R d c p f i j hi hid,gone_d,Nat.xor_assoc,Nat.xor_self,Nat.xor_zero]
  rw [e]
  exact hP.ad _ _ _ (byt_raise hb _ _ _ _) (byt_gone hb R d c p i) (byt_gone hb R d c p d) (h i hi) (h d (by omega))
 intro i hi
 by_cases h1 : i = p
 ·subst h1; exact hpp
 by_cases h2 : d <= i /\ i < p
 ·have:=hr (i + 1) (by omega) (by omega)
  rw [raise_was] at this
  unfold was at this
  rw [if_neg (by omega),if_pos (by omega),Nat.add_sub_cancel] at this
  exact this
 ·have:=hr i hi (by omega)
  rw [raise_was] at this
  unfold was at this
  rw [if_neg (by omega),if_neg (by omega)] at this
  exact this
theorem lin_steps {P : (Nat -> Nat) -> Prop} (hP : Lin P) {R : Nat} {f : M} (hb : Byt f) : ∀ c,((∀ i,i < R -> P (f i)) ↔ ∀ i,i < R -> P ((steps R f c).1 i))
 | 0=>Iff.rfl
 | c + 1=>by
  have ih:=lin_steps hP hb (R:=R) c
  have hi:=inv_steps R f hb c
  rw [ih]
  simp only [steps]
  rcases step_cases R c (steps R f c).1 (steps R f c).2 hi.le with ⟨e,_⟩ | ⟨p,k1,k2,k3,e⟩
  ·rw [show steps R f c = ((steps R f c).1,(steps R f c).2) from rfl,e]
  ·rw [show step R c (steps R f c) = _ from e]
   exact ⟨fun h=>lin_fwd hP hi.byt k2 k1 h,fun h=>lin_bwd hP hi.byt k2 k1 k3 h⟩
/-- the sum of the first n -/
def xs : Nat -> (Nat -> Nat) -> Nat
 | 0,_=>0
 | k + 1,g=>xs k g ^^^ g k
theorem xs_lt {g : Nat -> Nat} (h : B1 g) : ∀ n,xs n g < 256
 | 0=>by show 0 < 256; decide
 | n + 1=>xor_lt (xs_lt h n) (h n)
theorem xs_congr {g g' : Nat -> Nat} : ∀ n,(∀ k,k < n -> g k = g' k) -> xs n g = xs n g'
 | 0,_=>rfl
 | n + 1,h=>by rw [xs,xs,xs_congr n (fun k hk=>h k (by omega)),h n (by omega)]
theorem xs_xor (g g' : Nat -> Nat) : ∀ n,xs n (fun k=>g k ^^^ g' k) = xs n g ^^^ xs n g'
 | 0=>by simp [xs]
 | n + 1=>by rw [xs,xs,xs,xs_xor g g' n,xor_ac]
theorem xs_mul {g : Nat -> Nat} (a : Nat) (h : B1 g) : ∀ n,xs n (fun k=>mul a (g k)) = mul a (xs n g)
 | 0=>by rw [xs,xs,mul_zero]
 | n + 1=>by rw [xs,xs,xs_mul a h n,mul_xor (xs_lt h n) (h n)]
theorem xs_zero : ∀ n,xs n (fun _=>0) = 0
 | 0=>rfl
 | n + 1=>by rw [xs,xs_zero n]; rfl
theorem one_mul {a : Nat} (h : a < 256) : mul 1 a = a:=by rw [mul_comm,mul_one h]
theorem xs_pick {g : Nat -> Nat} (hg : B1 g) (i : Nat) : ∀ n,xs n (fun k=>mul (if i = k then 1 else 0) (g k)) = if i < n then g i else 0
 | 0=>by rw [if_neg (by omega)]; rfl
 | n + 1=>by
  rw [xs,xs_pick hg i n]
  by_cases h1 : i = n
  ·subst h1; rw [if_neg (by omega),if_pos rfl,if_pos (by omega),one_mul (hg _),Nat.zero_xor]
  ·rw [if_neg h1,zero_mul,Nat.xor_zero]
   by_cases h2 : i < n
   ·rw [if_pos h2,if_pos (by omega)]
   ·rw [if_neg h2,if_neg (by omega)]
/-- what stands at one place is a sum of products of what stands at others: that is linear -/
theorem lin_sum (n : Nat) (J : Nat -> Prop) (at_ : Nat -> Nat) (from_ : Nat -> Nat) (g : Nat -> Nat -> Nat) (hg : ∀ j k,g j k < 256) :
  Lin (fun u=>∀ j,J j -> u (at_ j) = xs n (fun k=>mul (u (from_ k)) (g j k))):=by
 refine ⟨fun a u ha hu h j hj=>?_,fun b u v hb hu hv h1 h2 j hj=>?_⟩
 ·show mul (u (at_ j)) a = xs n (fun k=>mul (mul (u (from_ k)) a) (g j k))
  rw [h j hj,mul_comm _ a,<- xs_mul a (fun k=>mul_lt _ _)]
  exact xs_congr n fun k _=>by rw [mul_comm (u (from_ k)) a,mul_assoc ha (hu _) (hg _ _)]
 ·show u (at_ j) ^^^ mul b (v (at_ j)) = xs n (fun k=>mul (u (from_ k) ^^^ mul b (v (from_ k))) (g j k))
  rw [h1 j hj,h2 j hj,<- xs_mul b (fun k=>mul_lt _ _),<- xs_xor]
  exact xs_congr n fun k _=>by rw [mul_comm (u (from_ k) ^^^ _),mul_xor (hu _) (mul_lt _ _),mul_comm (g j k) (u _),mul_comm (g j k) (mul b _),mul_assoc hb (hv _) (hg _ _)]
/-- beside it the one that has 1 where row and column are the same -/
def wide (n : Nat) (m : M) : M:=fun i j=>if j < n then m i j else if j = n + i then 1 else 0
theorem byt_wide {m : M} (n : Nat) (h : Byt m) : Byt (wide n m):=fun i j=>by
 unfold wide; split
 ·exact h _ _
 ·split <;> decide
/-- turned about -/
def inve (n : Nat) (m : M) : M:=fun i j=>(steps n (wide n m) n).1 i (n + j)
def rank (R n : Nat) (m : M) : Nat:=(steps R m n).2
theorem byt_steps {R : Nat} {f : M} (h : Byt f) (c : Nat) : Byt (steps R f c).1:=(inv_steps R f h c).byt
theorem byt_inve {m : M} (n : Nat) (h : Byt m) : Byt (inve n m):=fun i j=>byt_steps (byt_wide n h) n i (n + j)
theorem rank_wide (n : Nat) (m : M) (h : Byt m) : (steps n (wide n m) n).2 = rank n n m :=
 (steps_agree (J:=fun j=>j < n) (s:=id) (fun j hj=>⟨hj,rfl⟩) h (fun i _ j hj=>by show wide n m i j = m i j; unfold wide; rw [if_pos hj]) n (Nat.le_refl _)).1
theorem left_unit {R n : Nat} {f : M} (hb : Byt f) (h : (steps R f n).2 = n) : ∀ i,i < R -> ∀ j,j < n -> (steps R f n).1 i j = if i = j then 1 else 0:=(inv_steps R f hb n).unit h
theorem add_inj (n i k : Nat) : (n + k = n + i) = (i = k):=by apply propext; omega
/-- the product of it turned about and it -/
theorem inve_mul {n : Nat} {m : M} (hb : Byt m) (h : rank n n m = n) {i j : Nat} (hi : i < n) (hj : j < n) : xs n (fun k=>mul (inve n m i k) (m k j)) = if i = j then 1 else 0:=by
 have hw:=byt_wide n hb
 have hr : (steps n (wide n m) n).2 = n:=by rw [rank_wide n m hb,h]
 have hl:=(lin_steps (lin_sum n (fun j=>j < n) id (fun k=>n + k) (fun j k=>m k j) (fun _ _=>hb _ _)) hw (R:=n) n).1 (fun i hi j hj=>by
  show wide n m i j = xs n (fun k=>mul (wide n m i (n + k)) (m k j))
  have e : ∀ k,wide n m i (n + k) = if i = k then 1 else 0:=fun k=>by
   unfold wide; rw [if_neg (by omega)]; simp only [add_inj]
  simp only [e]
  rw [xs_pick (fun k=>hb k j),if_pos hi]; unfold wide; rw [if_pos hj]) i hi j hj
 rw [<- left_unit hw hr i hi j hj]
 exact hl.symm
end El
end Go.Proofs.YteapbbaollmniaaGreatDoor.C
namespace Go.Proofs.YteapbbaollmniaaGreatDoor.C
namespace El
open Fld
/-- the sum of products with a list is linear -/
theorem lin_zero (n : Nat) (v : Nat -> Nat) (hv : B1 v) : Lin (fun u=>xs n (fun k=>mul (u k) (v k)) = 0):=by
 refine ⟨fun a u ha hu h=>?_,fun b u u' hb hu hu' h1 h2=>?_⟩
 ·show xs n (fun k=>mul (mul (u k) a) (v k)) = 0
  rw [xs_congr (g':=fun k=>mul a (mul (u k) (v k))) n (fun k _=>by rw [mul_comm (u k) a,mul_assoc ha (hu k) (hv k)]),xs_mul a (fun k=>mul_lt _ _),h,mul_zero]
 ·show xs n (fun k=>mul (u k ^^^ mul b (u' k)) (v k)) = 0
  rw [xs_congr (g':=fun k=>mul (u k) (v k) ^^^ mul b (mul (u' k) (v k))) n (fun k _=>by
   rw [mul_comm (u k ^^^ _),mul_xor (hu k) (mul_lt _ _),mul_comm (v k) (u k),mul_comm (v k) (mul b _),mul_assoc hb (hu' k) (hv k)]),xs_xor,h1,xs_mul b (fun k=>mul_lt _ _),h2,mul_zero]; rfl
/-- if nothing but noughts is sent to noughts, no column is without a row -/
theorem rank_full {n : Nat} {t : M} (ht : Byt t) (h : ∀ v : Nat -> Nat,B1 v -> (∀ i,i < n -> xs n (fun k=>mul (t i k) (v k)) = 0) -> ∀ j,j < n -> v j = 0) : rank n n t = n:=by
 have key : ∀ c,c <= n -> (steps n t c).2 = c:=by
  intro c
  induction c with
  | zero=>intro _; rfl
  | succ c ih =>
   intro hc
   have hd:=ih (by omega)
   have hI:=inv_steps n t ht c
   have hu:=hI.unit hd
   rcases step_cases n c (steps n t c).1 (steps n t c).2 hI.le with ⟨e,h0⟩ | ⟨p,k1,k2,k3,e⟩
   ·exfalso
    rw [hd] at h0
    have hF:=hI.byt
    generalize hf : (steps n t c).1 = f at *
    let v : Nat -> Nat:=fun j=>if j < c then f j c else if j = c then 1 else 0
    have hv : B1 v:=fun j=>by
     show (if j < c then f j c else if j = c then 1 else 0) < 256
     split
     ·exact hF _ _
     ·split <;> decide
    have hrow : ∀ i,i < n -> xs n (fun k=>mul (f i k) (v k)) = 0:=fun i hi=>by
     have g : ∀ m,m <= n -> xs m (fun k=>mul (f i k) (v k)) = (if i < c then (if i < m then f i c else 0) else 0) ^^^ (if c < m then f i c else 0):=by
      intro m
      induction m with
      | zero=>intro _; simp [xs]
      | succ m ihm =>
       intro hm
       rw [xs,ihm (by omega)]
       by_cases h1 : m < c
       ·have e1 : mul (f i m) (v m) = if i = m then f m c else 0:=by
         rw [hu i hi m h1]
         show mul _ (if m < c then f m c else if m = c then 1 else 0) = _
         rw [if_pos h1]
         by_cases h2 : i = m
         ·rw [if_pos h2,if_pos h2,one_mul (hF _ _)]
         ·rw [if_neg h2,if_neg h2,zero_mul]
        rw [e1,if_neg (by omega : ¬ c < m),if_neg (by omega : ¬ c < m + 1),Nat.xor_zero,Nat.xor_zero]
        by_cases h2 : i = m
        ·subst h2
         rw [if_pos h1,if_pos rfl,if_neg (by omega),if_pos h1,if_pos (by omega),Nat.zero_xor]
        ·rw [if_neg h2,Nat.xor_zero]
         by_cases h3 : i < c
         ·rw [if_pos h3,if_pos h3]
          by_cases h4 : i < m
          ·rw [if_pos h4,if_pos (by omega)]
          ·rw [if_neg h4,if_neg (by omega)]
         ·rw [if_neg h3,if_neg h3]
       ·by_cases h2 : m = c
        ·subst h2
         have e1 : mul (f i m) (v m) = f i m:=by
          show mul _ (if m < m then f m m else if m = m then 1 else 0) = _
          rw [if_neg (by omega),if_pos rfl,mul_one (hF _ _)]
         rw [e1,if_neg (by omega : ¬ m < m),if_pos (by omega : m < m + 1),Nat.xor_zero]
         congr 1
         by_cases h3 : i < m
         ·rw [if_pos h3,if_pos h3,if_pos h3,if_pos (by omega)]
         ·rw [if_neg h3,if_neg h3]
        ·have e1 : mul (f i m) (v m) = 0:=by
          show mul _ (if m < c then f m c else if m = c then 1 else 0) = _
          rw [if_neg h1,if_neg h2,mul_zero]
         rw [e1,if_pos (by omega : c < m),if_pos (by omega : c < m + 1),Nat.xor_zero]
         congr 1
         by_cases h3 : i < c
         ·rw [if_pos h3,if_pos h3,if_pos (by omega),if_pos (by omega)]
         ·rw [if_neg h3,if_neg h3]
     rw [g n (Nat.le_refl _),if_pos (by omega : c < n)]
     by_cases h3 : i < c
     ·rw [if_pos h3,if_pos hi,Nat.xor_self]
     ·rw [if_neg h3,h0 i (by omega) hi]; rfl
    have hback:=(lin_steps (lin_zero n v hv) ht (R:=n) c).2 (fun i hi=>by rw [hf]; exact hrow i hi)
    have:=h v hv hback c (by omega)
    have e1 : v c = 1:=by
     show (if c < c then f c c else if c = c then 1 else 0) = 1
     rw [if_neg (by omega),if_pos rfl]
    omega
   ·show (step n c (steps n t c)).2 = c + 1
    rw [show step n c (steps n t c) = _ from e]
    show (steps n t c).2 + 1 = c + 1
    rw [hd]
 exact key n (Nat.le_refl _)
/-- the sum over a list -/
def sm : List Nat -> (Nat -> Nat) -> Nat
 | [],_=>0
 | y :: Y,g=>g y ^^^ sm Y g
theorem sm_lt {g : Nat -> Nat} (h : B1 g) : ∀ Y,sm Y g < 256
 | []=>by show 0 < 256; decide
 | y :: Y=>xor_lt (h y) (sm_lt h Y)
theorem sm_congr {g g' : Nat -> Nat} : ∀ Y : List Nat,(∀ y ∈ Y,g y = g' y) -> sm Y g = sm Y g'
 | [],_=>rfl
 | y :: Y,h=>by rw [sm,sm,h y List.mem_cons_self,sm_congr Y (fun z hz=>h z (List.mem_cons_of_mem _ hz))]
theorem sm_xor (g g' : Nat -> Nat) : ∀ Y,sm Y (fun y=>g y ^^^ g' y) = sm Y g ^^^ sm Y g'
 | []=>by simp [sm]
 | y :: Y=>by rw [sm,sm,sm,sm_xor g g' Y,xor_ac]
theorem sm_mul {g : Nat -> Nat} (a : Nat) (h : B1 g) : ∀ Y,sm Y (fun y=>mul a (g y)) = mul a (sm Y g)
 | []=>by rw [sm,sm,mul_zero]
 | y :: Y=>by rw [sm,sm,sm_mul a h Y,mul_xor (h y) (sm_lt h Y)]
theorem xor_zero_eq {a b : Nat} (h : a ^^^ b = 0) : a = b:=by
 have:=congrArg (fun x=>x ^^^ b) h
 simpa [Nat.xor_assoc] using this
theorem xor_ne' {a b : Nat} (h : a ≠ b) : a ^^^ b ≠ 0:=fun e=>h (xor_zero_eq e)
theorem mul_eq_zero {a b : Nat} (h : mul a b = 0) (hb : b ≠ 0) : a = 0:=by
 by_cases ha : a = 0
 ·exact ha
 ·exact absurd h (mul_ne ha hb)
theorem frac1 {p r : Nat} (hp : p < 256) (hr : r < 256) (h0 : p ≠ 0) : mul (p ^^^ r) (inv p) = 1 ^^^ mul r (inv p):=by
 rw [mul_comm,mul_xor hp hr,mul_comm (inv p) p,mul_inv hp h0,mul_comm (inv p) r]
theorem frac2 {p q : Nat} (hp : p < 256) (hq : q < 256) (h0 : p ≠ 0) (h1 : q ≠ 0) : inv p ^^^ inv q = mul (p ^^^ q) (mul (inv p) (inv q)):=by
 have ip:=inv_lt p
 have iq:=inv_lt q
 rw [mul_comm,mul_xor hp hq,mul_comm (mul (inv p) (inv q)) p,<- mul_assoc hp ip iq,mul_inv hp h0,one_mul iq,
  mul_comm (inv p) (inv q),mul_comm (mul (inv q) (inv p)) q,<- mul_assoc hq iq ip,mul_inv hq h1,one_mul ip,Nat.xor_comm]
/-- Cauchy: sums of v y / (x + y) that are all 0 -/
theorem cauchy : ∀ (Y X : List Nat) (v : Nat -> Nat),B1 v -> Y.length <= X.length -> X.Nodup -> Y.Nodup -> (∀ x ∈ X,x < 256) -> (∀ y ∈ Y,y < 256) -> (∀ x ∈ X,∀ y ∈ Y,x ≠ y) ->
  (∀ x ∈ X,sm Y (fun y=>mul (v y) (inv (x ^^^ y))) = 0) -> ∀ y ∈ Y,v y = 0
 | [],_,_,_,_,_,_,_,_,_,_,y,hy=>by cases hy
 | a :: Y,[],_,_,hl,_,_,_,_,_,_,y,hy=>by simp at hl
 | a :: Y,x0 :: X,v,hv,hl,hX,hY,bX,bY,hne,heq,y,hy=>by
  have ha : a < 256:=bY a List.mem_cons_self
  have hx0 : x0 < 256:=bX x0 List.mem_cons_self
  have hX':=List.nodup_cons.1 hX
  have hY':=List.nodup_cons.1 hY
  -- times x + a
  have E : ∀ x,x ∈ x0 :: X -> v a = sm Y (fun y=>mul (v y) (1 ^^^ mul (a ^^^ y) (inv (x ^^^ y)))):=fun x hx=>by
   have h:=heq x hx
   have hxb:=bX x hx
   have hxa : x ^^^ a ≠ 0:=xor_ne' (hne x hx a List.mem_cons_self)
   rw [sm] at h
   have h1:=xor_zero_eq h
   have h2:=congrArg (fun z=>mul (x ^^^ a) z) h1
   rw [mul_comm (v a),<- mul_assoc (xor_lt hxb ha) (inv_lt _) (hv a),mul_inv (xor_lt hxb ha) hxa,one_mul (hv a),<- sm_mul _ (fun y=>mul_lt _ _)] at h2
   rw [h2]
   refine sm_congr Y fun y hy=>?_
   have hyb:=bY y (List.mem_cons_of_mem _ hy)
   have hxy : x ^^^ y ≠ 0:=xor_ne' (hne x hx y (List.mem_cons_of_mem _ hy))
   have e : x ^^^ a = (x ^^^ y) ^^^ (a ^^^ y):=by
    rw [Nat.xor_assoc,Nat.xor_comm a y,<- Nat.xor_assoc y y a,Nat.xor_self,Nat.zero_xor]
   rw [e,mul_comm (v y),<- mul_assoc (xor_lt (xor_lt hxb hyb) (xor_lt ha hyb)) (inv_lt _) (hv y),frac1 (xor_lt hxb hyb) (xor_lt ha hyb) hxy,mul_comm]
  have hvs : ∀ y ∈ Y,v y = 0:=by
   have hv' : B1 (fun y=>mul (v y) (mul (a ^^^ y) (inv (x0 ^^^ y)))):=fun y=>mul_lt _ _
   have:=cauchy Y X (fun y=>mul (v y) (mul (a ^^^ y) (inv (x0 ^^^ y)))) hv' (by simpa using hl) hX'.2 hY'.2 (fun x hx=>bX x (List.mem_cons_of_mem _ hx)) (fun y hy=>bY y (List.mem_cons_of_mem _ hy))
    (fun x hx y hy=>hne x (List.mem_cons_of_mem _ hx) y (List.mem_cons_of_mem _ hy)) (fun x hx=>?_)
   ·intro y hy
    have h1:=this y hy
    have hyb:=bY y (List.mem_cons_of_mem _ hy)
    refine mul_eq_zero h1 (mul_ne (xor_ne' fun e=>?_) (inv_ne _))
    subst e; exact hY'.1 hy
   ·have hxm:=List.mem_cons_of_mem x0 hx
    have h1:=E x hxm
    have h2:=E x0 List.mem_cons_self
    have hxb:=bX x hxm
    have h3 : sm Y (fun y=>mul (v y) (1 ^^^ mul (a ^^^ y) (inv (x ^^^ y))) ^^^ mul (v y) (1 ^^^ mul (a ^^^ y) (inv (x0 ^^^ y)))) = 0:=by
     rw [sm_xor,<- h1,<- h2,Nat.xor_self]
    have hxx : x ^^^ x0 ≠ 0:=xor_ne' fun e=>by subst e; exact hX'.1 hx
    have h4 : mul (x ^^^ x0) (sm Y (fun y=>mul (mul (v y) (mul (a ^^^ y) (inv (x0 ^^^ y)))) (inv (x ^^^ y)))) = 0:=by
     rw [<- sm_mul _ (fun y=>mul_lt _ _),<- h3]
     refine sm_congr Y fun y hy=>?_
     have hyb:=bY y (List.mem_cons_of_mem _ hy)
     have hp : x ^^^ y ≠ 0:=xor_ne' (hne x hxm y (List.mem_cons_of_mem _ hy))
     have hq : x0 ^^^ y ≠ 0:=xor_ne' (hne x0 List.mem_cons_self y (List.mem_cons_of_mem _ hy))
     have hpb:=xor_lt hxb hyb
     have hqb:=xor_lt hx0 hyb
     have hrb:=xor_lt ha hyb
     have e : x ^^^ x0 = (x ^^^ y) ^^^ (x0 ^^^ y):=by
      rw [Nat.xor_assoc,Nat.xor_comm x0 y,<- Nat.xor_assoc y y x0,Nat.xor_self,Nat.zero_xor]
     rw [e]
     generalize x ^^^ y = p at *
     generalize x0 ^^^ y = q at *
     generalize a ^^^ y = r at *
     have hvy:=hv y
     generalize v y = z at *
     have ip:=inv_lt p
     have iq:=inv_lt q
     have b1 : (1 : Nat) < 256:=by decide
     rw [<- mul_xor (xor_lt b1 (mul_lt _ _)) (xor_lt b1 (mul_lt _ _)),xor_ac,Nat.xor_self,Nat.zero_xor,<- mul_xor ip iq,frac2 hpb hqb hp hq]
     have hpq:=xor_lt hpb hqb
     generalize p ^^^ q = s at *
     generalize inv p = P at *
     generalize inv q = Q at *
     rw [mul_assoc hvy (mul_lt _ _) ip,mul_comm s,mul_assoc hvy (mul_lt _ _) hpq,mul_assoc hrb iq ip,mul_assoc hrb (mul_lt _ _) hpq,mul_comm Q P,mul_comm (mul P Q) s]
    rw [mul_comm] at h4
    exact mul_eq_zero h4 hxx
  rcases List.mem_cons.1 hy with rfl | hy
  ·rw [E x0 List.mem_cons_self,sm_congr (g':=fun _=>mul 0 0) Y (fun z hz=>by rw [hvs z hz,zero_mul,mul_zero]),sm_mul 0 (fun _=>by show 0 < 256; decide),zero_mul]
  ·exact hvs y hy
end El
end Go.Proofs.YteapbbaollmniaaGreatDoor.C
