/- Quorum, no program: manifests, what stands in a store's two slots, what the calls come to. -/
import Derived.Test.YtmpgfpmkmgebdaaGreatDoorFF0
import Derived.Test.YtmpgfpmkmgebdaaGreatDoorFSMix
namespace Go.Proofs.YtmpgfpmkmgebdaaGreatDoor
open Go.RowKit Go.Maps
open W
/-- a manifest -/
structure Bst where
  e : Int
  g : Int
  k : Int
  n : Int
  p : ByteArray
instance : DecidableEq Bst := fun a b => decidable_of_iff (a.e = b.e ∧ a.g = b.g ∧ a.k = b.k ∧ a.n = b.n ∧ a.p = b.p) (by cases a; cases b; simp)
/-- what stands in a slot -/
structure Rp where
  sd : Bool
  b : Bst
instance : DecidableEq Rp := fun a b => decidable_of_iff (a.sd = b.sd ∧ a.b = b.b) (by cases a; cases b; simp)
/-- what a store has, and whether it answers -/
structure Hd where
  ans : Bool
  r0 : Rp
  r1 : Rp
def zB : Bst := ⟨0, 0, 0, 0, ⟨#[]⟩⟩
def noR : Rp := ⟨false, zB⟩
def zH : Hd := ⟨false, noR, noR⟩
def bV (b : Bst) : List Value := [.int .i64 b.e, .int .i64 b.g, .int .i64 b.k, .int .i64 b.n, .string b.p]
def rV (r : Rp) : List Value := .bool r.sd :: bV r.b
def hV (h : Hd) : List Value := .bool h.ans :: (rV h.r0 ++ rV h.r1)
/-- the stamp of one is less than that of another one -/
def ls (a b : Bst) : Bool := F.lessB a.e a.g b.e b.g
def mdat (b : Bst) : ByteArray := F.mkD b.e b.g b.k b.n b.p
def mErr (b : Bst) : Int := F.mkE b.e b.g b.k b.n b.p
/-- what was got, looked at in a world of n stores -/
def lookd (n : Int) (s : ByteArray) : Rp := if F.rdOk s = true ∧ F.fB s 13 = n then ⟨true, ⟨F.fN s 4, F.fN s 8, F.fB s 12, F.fB s 13, F.fP s⟩⟩ else noR
theorem lookd_mk {b : Bst} (h : mErr b = 0) : lookd b.n (mdat b) = ⟨true, b⟩ := by
  obtain ⟨e, g, k, n, h1, h2, h3, h4, hd⟩ := F.mk_is h
  obtain ⟨t1, t2, t3, t4, _⟩ := hd.tells
  unfold lookd mdat
  rw [if_pos ⟨hd.read, t4.trans h4.symm⟩, t1, t2, t3, t4, hd.body, ← h1, ← h2, ← h3, ← h4]
theorem lookd_cut {b : Bst} (h : mErr b = 0) (n : Int) {k : Nat} (hk : k < (mdat b).size) : lookd n ((mdat b).extract 0 k) = noR := by
  obtain ⟨e, g, k', n', h1, h2, h3, h4, hd⟩ := F.mk_is h
  unfold lookd
  rw [if_neg]
  rintro ⟨h5, _⟩
  have h6 := F.rd_short hd.read k hk
  unfold mdat at h5
  rw [h6] at h5
  cases h5
theorem lookd_none (n : Int) : lookd n ⟨#[]⟩ = noR := by
  unfold lookd
  rw [if_neg]
  rintro ⟨h, _⟩
  unfold F.rdOk at h
  simp only [Bool.and_eq_true, decide_eq_true_eq] at h
  exact absurd h.1 (by decide)
theorem lookd_sd {n : Int} {s : ByteArray} (h : (lookd n s).sd = true) : F.rdOk s = true := by
  unfold lookd at h
  split at h
  · rename_i h1; exact h1.1
  · cases h
/-- the name of a slot -/
def mn (k : Nat) : ByteArray := if k = 0 then m0 else m1
def okE (e : Int) : Bool := decide (e = 0) || decide (e = 5)
/-- what the stores from i on have: an error, the world behind, what there is -/
def gath (n : Int) : Nat → Nat → Wd → List Hd → Int × Wd × List Hd
  | 0, _, V, acc => (0, V, acc)
  | k + 1, i, V, acc =>
    if (getW V (i : Int) m0).2 = 56 then (56, askW V (i : Int), [])
    else if (getW (askW V (i : Int)) (i : Int) m1).2 = 56 then (56, askW (askW V (i : Int)) (i : Int), [])
    else gath n k (i + 1) (askW (askW V (i : Int)) (i : Int)) (acc ++ [⟨okE (getW V (i : Int) m0).2 && okE (getW (askW V (i : Int)) (i : Int) m1).2, lookd n (getW V (i : Int) m0).1, lookd n (getW (askW V (i : Int)) (i : Int) m1).1⟩])
/-- the numbers of those that answer -/
def idx : Nat → List Hd → List Nat
  | _, [] => []
  | i, h :: t => if h.ans then i :: idx (i + 1) t else idx (i + 1) t
def upR (b r : Rp) : Rp := if r.sd && (!b.sd || ls b.b r.b) then r else b
def upH (l : List Hd) (b : Rp) (i : Nat) : Rp := match l[i]? with
  | some h => upR (upR b h.r0) h.r1
  | none => b
/-- the newest -/
def nwst (l : List Hd) : Rp := (idx 0 l).foldl (upH l) noR
def isB (oe og : Int) (r : Rp) : Bool := r.sd && (decide (r.b.e = oe) && decide (r.b.g = og))
/-- which slot is taken -/
def slt (oe og : Int) (h : Hd) : Nat := if isB oe og h.r0 then 1 else if isB oe og h.r1 || !h.r0.sd then 0 else if !h.r1.sd || ls h.r1.b h.r0.b then 1 else 0
def hasB (h : Hd) (b : Bst) : Bool := decide (h.r0 = ⟨true, b⟩) || decide (h.r1 = ⟨true, b⟩)
def setR (h : Hd) (k : Nat) (r : Rp) : Hd := if k = 0 then { h with r0 := r } else { h with r1 := r }
/-- a manifest is put over a base -/
def putD (b : Bst) (oe og : Int) (i : Nat) (h : Hd) (V : Wd) : Int × Hd × Wd :=
  let a := askS V (i : Int) fun s => putS s (mn (slt oe og h)) (mdat b)
  if a.1 = 56 then (56, h, a.2) else
  let h' := if a.1 = 0 then setR h (slt oe og h) ⟨true, b⟩ else h
  let c := askS a.2 (i : Int) W.sync
  if c.1 = 0 then (a.1, h', c.2) else (c.1, h', c.2)
def setD (b : Bst) (i : Nat) (h : Hd) (V : Wd) : Int × Hd × Wd := if hasB h b then ((askS V (i : Int) W.sync).1, h, (askS V (i : Int) W.sync).2) else putD b b.e b.g i h V
def mndD (b : Bst) (i : Nat) (h : Hd) (V : Wd) : Int × Hd × Wd := if hasB h b then (0, h, V) else putD b b.e b.g i h V
def badD (b : Bst) (_ : Nat) (h : Hd) (V : Wd) : Int × Hd × Wd := if hasB h b then (0, h, V) else (5, h, V)
/-- something is done with each that answers: what there is, how many times it was OK, the world, whether the power went -/
structure ES where
  l : List Hd
  dn : Nat
  V : Wd
  cut : Bool
def oneE (f : Nat → Hd → Wd → Int × Hd × Wd) (s : ES) (i : Nat) : ES := if s.cut then s else match s.l[i]? with
  | some h => ⟨s.l.set i (f i h s.V).2.1, if (f i h s.V).1 = 0 then s.dn + 1 else s.dn, (f i h s.V).2.2, decide ((f i h s.V).1 = 56)⟩
  | none => s
def eachE (f : Nat → Hd → Wd → Int × Hd × Wd) (l : List Hd) (V : Wd) : ES := (idx 0 l).foldl (oneE f) ⟨l, 0, V, false⟩
def enoE (s : ES) (need : Int) : Int := if s.cut then 56 else if (s.dn : Int) < need then 53 else 0
/-- what is found -/
def findE (l : List Hd) : Int := if (nwst l).sd then (if ((idx 0 l).length : Int) < (nwst l).b.n - (nwst l).b.k + 1 then 55 else 0) else if (idx 0 l).length = l.length then 5 else 55
def gathW (V : Wd) : Int × Wd × List Hd := gath V.l.length V.l.length 0 V []
def findW (V : Wd) : Int × Wd × List Hd := ((if (gathW V).1 = 0 then findE (gathW V).2.2 else (gathW V).1), (gathW V).2.1, (gathW V).2.2)
def mayP (V : Wd) (b : Bst) : Int := if b.n = V.l.length then mErr b else 1
def sprW (l : List Hd) (b : Bst) (oe og : Int) (V : Wd) : Int × Bst × Wd :=
  let s := eachE (putD b oe og) l V
  if enoE s b.k = 0 then (0, b, s.V) else (enoE s b.k, zB, s.V)
def nextE (b : Bst) : Bst := { b with e := b.e + 1 }
/-- Open: the error, what is opened, the world -/
def openW (V : Wd) : Int × Bst × Wd :=
  let f := findW V
  let b := (nwst f.2.2).b
  if f.1 ≠ 0 then (f.1, zB, f.2.1) else
  if ((idx 0 f.2.2).length : Int) < b.k then (55, zB, f.2.1) else
  if b.e = 2147483647 then (40, zB, f.2.1) else
  let s := eachE (setD b) f.2.2 f.2.1
  if enoE s b.k ≠ 0 then (enoE s b.k, zB, s.V) else
  sprW s.l (nextE b) b.e b.g s.V
def readW (V : Wd) : Int × Bst × Wd :=
  let f := findW V
  if f.1 ≠ 0 then (f.1, zB, f.2.1) else (0, (nwst f.2.2).b, f.2.1)
/-- Write -/
def writeW (V : Wd) (b : Bst) (p : ByteArray) : Int × Bst × Wd :=
  let c : Bst := { b with p := p }
  if mayP V c ≠ 0 then (mayP V c, zB, V) else
  if b.g = 2147483647 then (40, zB, V) else
  let d : Bst := { c with g := b.g + 1 }
  let g := gathW V
  if g.1 ≠ 0 then (g.1, zB, g.2.1) else
  if ((idx 0 g.2.2).length : Int) < d.k then (55, zB, g.2.1) else
  sprW g.2.2 d b.e b.g g.2.1
/-- Init -/
def initW (V : Wd) (k n : Int) (p : ByteArray) : Int × Bst × Wd :=
  let b : Bst := ⟨1, 1, k, n, p⟩
  if mayP V b ≠ 0 then (mayP V b, zB, V) else
  let g := gathW V
  if g.1 ≠ 0 then (g.1, zB, g.2.1) else
  if (nwst g.2.2).sd then (6, zB, g.2.1) else
  if (idx 0 g.2.2).length < g.2.2.length then (55, zB, g.2.1) else
  sprW g.2.2 b 0 0 g.2.1
/-- Bad -/
def badW (V : Wd) (b : Bst) : Int × Int × Wd :=
  let g := gathW V
  if g.1 ≠ 0 then (0, g.1, g.2.1) else
  ((g.2.2.length : Int) - (eachE (badD b) g.2.2 g.2.1).dn, 0, g.2.1)
/-- Mend -/
def mendW (V : Wd) (b : Bst) : Int × Wd :=
  if mayP V b ≠ 0 then (mayP V b, V) else
  let g := gathW V
  if g.1 ≠ 0 then (g.1, g.2.1) else
  let s := eachE (mndD b) g.2.2 g.2.1
  (enoE s g.2.2.length, s.V)
end Go.Proofs.YtmpgfpmkmgebdaaGreatDoor
/- The contracts of the small functions. -/
namespace Go.Proofs.YtmpgfpmkmgebdaaGreatDoor.F
open Go.RowKit
theorem count_any (n : Int) (w : World) : Calls Tryz.prog 65 #[.int .i64 n] w fun e w' => e = .returned (.bool (okN n)) ∧ w' = w := by
  go_enter Tryz.func65, Tryz.ntmps65
  go_wp2
  all_goals
    go_ret
    refine ⟨?_, rfl⟩
    simp_all [okN] <;> omega
set_option maxRecDepth 20000 in
theorem code_any (K N : Int) (w : World) : Calls Tryz.prog 66 #[.agg #[.int .i64 K, .int .i64 N]] w fun e w' => e = .returned (.bool (okC K N)) ∧ Below w.heap.size w w' := by
  go_enter Tryz.func66, Tryz.ntmps66
  go_wp2
  all_goals
    go_ret
    refine ⟨?_, (Below.refl _ _).alloc (Nat.le_refl _) _⟩
    simp_all [okC] <;> omega
set_option maxRecDepth 20000 in
theorem refCode_any (K N : Int) (w : World) : Calls Tryz.prog 121 #[.agg #[.int .i64 K, .int .i64 N]] w fun e w' => e = .returned (.bool (okC K N)) ∧ Below w.heap.size w w' := by
  have e1 : (0 < K) = (1 ≤ K) := by rw [eq_iff_iff]; omega
  have e2 : (N < 13) = (N ≤ 12) := by rw [eq_iff_iff]; omega
  go_enter Tryz.func121, Tryz.ntmps121
  go_wp2
  all_goals
    go_ret
    refine ⟨?_, (Below.refl _ _).alloc (Nat.le_refl _) _⟩
    first
    | (simp_all [okC]; done)
    | (simp_all [okC]; omega)
set_option maxRecDepth 20000 in
theorem less_any (a b c d : Int) (w : World) : Calls Tryz.prog 53 #[.agg #[.int .i64 a, .int .i64 b], .agg #[.int .i64 c, .int .i64 d]] w fun e w' => e = .returned (.bool (lessB a b c d)) ∧ Below w.heap.size w w' := by
  go_enter Tryz.func53, Tryz.ntmps53
  go_wp2
  all_goals
    go_ret
    refine ⟨?_, ((Below.refl _ _).alloc (Nat.le_refl _) _).alloc (by simp) _⟩
    simp_all [lessB] <;> omega
/-- 4 bytes that were made, as a string -/
theorem conv4 (n : Nat) (hn : n < 2147483648) (w : World) : (convert 141 9 (.slice (some ⟨w.heap.size, 0, none⟩) 4 4)).run Tryz.prog (w.alloc (.cells #[.int .u8 ((n : Int) / 16777216), .int .u8 ((n : Int) / 65536 % 256), .int .u8 ((n : Int) / 256 % 256), .int .u8 ((n : Int) % 256)] 5)) = .ok (.string (ofBs (be4 n))) (w.alloc (.cells #[.int .u8 ((n : Int) / 16777216), .int .u8 ((n : Int) / 65536 % 256), .int .u8 ((n : Int) / 256 % 256), .int .u8 ((n : Int) % 256)] 5)) := by
  have e : be4 n = [n / 16777216, n / 65536 % 256, n / 256 % 256, n % 256] := by
    unfold be4; rw [Nat.mod_eq_of_lt (show n / 16777216 < 256 by omega)]
  rw [e]
  exact conv_str _ _ [n / 16777216, n / 65536 % 256, n / 256 % 256, n % 256] 5 4 (Has.new _ _ _ _ rfl)
set_option maxRecDepth 20000 in
theorem four_any (n : Nat) (hn : n < 2147483648) (w : World) : Calls Tryz.prog 94 #[.int .i64 (n : Int)] w fun e w' => e = .returned (.string (ofBs (be4 n))) ∧ Below w.heap.size w w' := by
  have HC := conv4 n hn w
  generalize ofBs (be4 n) = X at *
  go_enter Tryz.func94, Tryz.ntmps94
  go_wp2
  go_ret
  exact ⟨rfl, (Below.refl _ _).alloc (Nat.le_refl _) _⟩
theorem conv4r (n : Nat) (w : World) : (convert 141 9 (.slice (some ⟨w.heap.size, 0, none⟩) 4 4)).run Tryz.prog (w.alloc (.cells #[.int .u8 ((n : Int) / 16777216 % 256), .int .u8 ((n : Int) / 65536 % 256), .int .u8 ((n : Int) / 256 % 256), .int .u8 ((n : Int) % 256)] 5)) = .ok (.string (ofBs (be4 n))) (w.alloc (.cells #[.int .u8 ((n : Int) / 16777216 % 256), .int .u8 ((n : Int) / 65536 % 256), .int .u8 ((n : Int) / 256 % 256), .int .u8 ((n : Int) % 256)] 5)) :=
  conv_str _ _ (be4 n) 5 4 (Has.new _ _ _ _ rfl)
set_option maxRecDepth 20000 in
theorem refFour_any (n : Nat) (hn : n < 2147483648) (w : World) : Calls Tryz.prog 106 #[.int .i64 (n : Int)] w fun e w' => e = .returned (.string (ofBs (be4 n))) ∧ Below w.heap.size w w' := by
  have HC := conv4r n w
  generalize ofBs (be4 n) = X at *
  go_enter Tryz.func106, Tryz.ntmps106
  go_wp2
  go_ret
  exact ⟨rfl, (Below.refl _ _).alloc (Nat.le_refl _) _⟩
end Go.Proofs.YtmpgfpmkmgebdaaGreatDoor.F
/- A frame as a list tells it: what cuts parts off, and numbers of 4 bytes. -/
namespace Go.Proofs.YtmpgfpmkmgebdaaGreatDoor.F
open Go.RowKit
set_option maxRecDepth 20000 in
theorem cut_any (b g o n c k : Nat) (w : World) (hb : Has w b #[.slice (some ⟨g, o, none⟩) n c] 141) (hk : k ≤ n) (hc : n ≤ c) (hkc : k < c) :
    Calls Tryz.prog 138 #[.int .i64 (k : Int), .pointer (some ⟨b, 0, none⟩)] w fun e w' => e = .returned (.slice (some ⟨g, o, none⟩) k k) ∧ Has w' b #[.slice (some ⟨g, o + k, none⟩) (n - k) (c - k)] 141 ∧ Only b w w' := by
  have c0 : w.cell? ⟨b, 0, none⟩ = some (.slice (some ⟨g, o, none⟩) n c) := hb.cell 0
  have f0 := hb.frozen 0
  have q1 : (k : Int) ≤ (n : Int) := by omega
  have q2 : (k : Int) ≤ (c : Int) := by omega
  have q3 : (n : Int) ≤ (c : Int) := by omega
  have q4 : c ≠ k := by omega
  go_enter Tryz.func138, Tryz.ntmps138
  go_wp2
  go_ret
  exact ⟨rfl, hb.set 0 _, (Only.refl _ _).setCell 0 _⟩
theorem or8 (x b : Nat) (hx : x < 1099511627776) (hb : b < 256) : bits .or .i64 ((x : Int) * 256) (b : Int) = ((x * 256 + b : Nat) : Int) := by
  have e : (x : Int) * 256 = ((x * 256 : Nat) : Int) := by omega
  rw [e]
  show IntKind.i64.wrap ((BitVec.ofInt 64 ((x * 256 : Nat) : Int) ||| BitVec.ofInt 64 (b : Int)).toNat : Int) = _
  rw [BitVec.toNat_or, ofInt_u64 _ (by omega), ofInt_u64 b (by omega), nat_join 8 _ _ (by omega) hb]
  exact wrap_i64_of (by omega) (by omega)
theorem or8x (x b : Nat) (hx : x < 1099511627776) (hb : b < 256) : ∃ y : Nat, Hid (y = x * 256 + b) ∧ bits .or .i64 ((x : Int) * 256) (b : Int) = (y : Int) := ⟨_, rfl, or8 x b hx hb⟩
set_option maxRecDepth 20000 in
theorem number_any (b0 b1 b2 b3 : Nat) (h0 : b0 < 256) (h1 : b1 < 256) (h2 : b2 < 256) (h3 : b3 < 256) (g o : Nat) (w : World) (c0 : w.cell? ⟨g, o, none⟩ = some (.int .u8 (b0 : Int))) (c1 : w.cell? ⟨g, o + 1, none⟩ = some (.int .u8 (b1 : Int))) (c2 : w.cell? ⟨g, o + 2, none⟩ = some (.int .u8 (b2 : Int))) (c3 : w.cell? ⟨g, o + 3, none⟩ = some (.int .u8 (b3 : Int))) :
    Calls Tryz.prog 120 #[.slice (some ⟨g, o, none⟩) 4 4] w fun e w' => e = .returned (.int .i64 ((b0 * 16777216 + b1 * 65536 + b2 * 256 + b3 : Nat) : Int)) ∧ w' = w := by
  have E0 : bits .or .i64 0 (b0 : Int) = (b0 : Int) := by have := or8 0 b0 (by omega) h0; simpa using this
  obtain ⟨x1, y1, E1⟩ := or8x b0 b1 (by omega) h1
  have l1 : x1 < 65536 := by rw [y1.out]; omega
  obtain ⟨x2, y2, E2⟩ := or8x x1 b2 (by omega) h2
  have l2 : x2 < 16777216 := by rw [y2.out]; omega
  obtain ⟨x3, y3, E3⟩ := or8x x2 b3 (by omega) h3
  have HZ : Hid (((b0 * 16777216 + b1 * 65536 + b2 * 256 + b3 : Nat) : Int) = (x3 : Int)) := by
    have a1 := y1.out; have a2 := y2.out; have a3 := y3.out
    unfold Hid; omega
  clear y1 y2 y3
  rw [HZ.out]
  clear HZ
  go_enter Tryz.func120, Tryz.ntmps120
  go_wp2_with fail
  refine wp_loop_rounds 5 ?_
  rw [rounds_succ]
  go_wp2_with fail
  rw [rounds_succ]
  go_wp2_with fail
  rw [rounds_succ]
  go_wp2_with fail
  rw [rounds_succ]
  go_wp2_with fail
  rw [rounds_succ]
  go_wp2_with fail
  go_ret
  exact ⟨rfl, rfl⟩
end Go.Proofs.YtmpgfpmkmgebdaaGreatDoor.F
