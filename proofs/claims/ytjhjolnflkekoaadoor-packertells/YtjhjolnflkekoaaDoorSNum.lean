/- Lists that a call makes by append: what they hold; the laws of append at this program's element types. -/
import Derived.Test.YtjhjolnflkekoaaDoorSTurn
import Derived.Test.YtjhjolnflkekoaaDoorSOut
import Derived.Deep.AppendLies
import Derived.KernelRfl
import Derived.Deep.Light
import Derived.Deep.QuietTactic
import Derived.BigQuiet
import Derived.Test.YtjhjolnflkekoaaDoorSSum
import Derived.Laws.MakeOwn
import Derived.Laws.BytesString
import Derived.Test.YtjhjolnflkekoaaDoorSHeap
namespace Go.Proofs.YtjhjolnflkekoaaDoor.S
open Go.RowKit
/-- an element type of one cell, and the list type of it -/
structure Elem (t e : TypeId) (z : Value) (bytes : Nat) : Prop where
  ht : Tryd.prog.underlying t = some (.slice e)
  hi : (Tryd.prog.info? e).map (fun i => (i.zero, i.size, i.bytes)) = some (some z, 1, bytes)
  hz : z.cells.size = 1
  hb : bytes ≤ 16
theorem el5 : Elem 51 5 (.int .u8 0) 1 := ⟨Tryd.underlying51, by kernel_rfl, rfl, by decide⟩
theorem el40 : Elem 88 64 (.int .u32 0) 4 := ⟨Tryd.underlying88, by kernel_rfl, rfl, by decide⟩
theorem el9 : Elem 22 9 (.string ⟨#[]⟩) 16 := ⟨Tryd.underlying22, by kernel_rfl, rfl, by decide⟩
theorem Elem.info {t e : TypeId} {z : Value} {bytes : Nat} (E : Elem t e z bytes) : ∃ i, Tryd.prog.info? e = some i ∧ i.zero = some z ∧ i.size = 1 ∧ i.bytes = bytes := by
  have h := E.hi
  cases hq : Tryd.prog.info? e with
  | none => rw [hq] at h; simp at h
  | some i =>
    rw [hq] at h
    simp only [Option.map_some, Option.some.injEq, Prod.mk.injEq] at h
    exact ⟨i, rfl, h⟩
/-- the list v, made by the call itself (from block base on), holds these cells -/
def Owns (e : TypeId) (base : Nat) (v : Value) (xs : List Value) (w : World) : Prop := w.ownsRow base e 1 v xs.length xs
theorem Owns.nil (e : TypeId) (base : Nat) (w : World) : Owns e base (.slice none 0 0) [] w := World.ownsRow_nil w base e 1
theorem Owns.alloc {e : TypeId} {base : Nat} {v : Value} {xs : List Value} {w : World} (h : Owns e base v xs w) (o : Obj) : Owns e base v xs (w.alloc o) := World.ownsRow.alloc h o
theorem Owns.base_le {e : TypeId} {base : Nat} {v : Value} {xs : List Value} {w : World} (h : Owns e base v xs w) : ∀ k, v.ownBlock = some k → base ≤ k ∧ k < w.heap.size := World.ownsRow.lt h
theorem Owns.below {e : TypeId} {base : Nat} {v : Value} {xs : List Value} {w w' : World} (h : Owns e base v xs w) (hb : Below w.heap.size w w') : Owns e base v xs w' := by
  obtain ⟨h1, h2⟩ := h
  refine ⟨h1, ?_⟩
  rcases h2 with h2 | ⟨g, cap, cur, hv, hg, hh, h3⟩
  · exact .inl h2
  · exact .inr ⟨g, cap, cur, hv, hg, by rw [hb.block g (Array.getElem?_eq_some_iff.1 hh).1]; exact hh, h3⟩
theorem Owns.form {e : TypeId} {base : Nat} {v : Value} {xs : List Value} {w : World} (h : Owns e base v xs w) (hp : 0 < xs.length) : ∃ g cap, v = .slice (some ⟨g, 0, none⟩) xs.length cap ∧ xs.length ≤ cap ∧ cap ≤ maxLen ∧ base ≤ g ∧ g < w.heap.size ∧ ∀ j, w.cell? ⟨g, j, none⟩ = none ∨ (j < xs.length → w.cell? ⟨g, j, none⟩ = xs[j]?) := by
  obtain ⟨h1, h2⟩ := h
  rcases h2 with ⟨_, h0⟩ | ⟨g, cap, cur, hv, hg, hh, h3, h4, h5, h6⟩
  · omega
  · refine ⟨g, cap, hv, h3, h4, hg, (Array.getElem?_eq_some_iff.1 hh).1, fun j => .inr fun hj => ?_⟩
    have hc : w.cell? ⟨g, j, none⟩ = cur[j]? := by simp [World.cell?, hh]
    rw [hc, ← h6, List.getElem?_take, if_pos (by omega)]; simp
theorem Owns.cell {e : TypeId} {base g cap n : Nat} {xs : List Value} {w : World} (h : Owns e base (.slice (some ⟨g, 0, none⟩) n cap) xs w) (j : Nat) (hj : j < xs.length) : w.cell? ⟨g, j, none⟩ = xs[j]? := by
  obtain ⟨h1, h2⟩ := h
  rcases h2 with ⟨h0, _⟩ | ⟨g', cap', cur, hv, hg, hh, h3, h4, h5, h6⟩
  · simp at h0
  · simp only [Value.slice.injEq, Option.some.injEq, Addr.mk.injEq] at hv
    obtain ⟨⟨rfl, _⟩, _, rfl⟩ := hv
    have hc : w.cell? ⟨g, j, none⟩ = cur[j]? := by simp [World.cell?, hh]
    rw [hc]
    have h7 : xs[j]? = (cur.toList.take (xs.length * 1))[j]? := by rw [h6]
    rw [h7, List.getElem?_take, if_pos (by omega)]; simp
theorem Owns.kept {e : TypeId} {base : Nat} {v v' : Value} {xs : List Value} {w w' : World} (h : Owns e base v xs w) (hg : w.grownBy w' v'.ownBlock) (hne : v.ownBlock = none ∨ v.ownBlock ≠ v'.ownBlock) : Owns e base v xs w' := World.ownsRow.kept h hg hne
theorem wpList_app {t e : TypeId} {z : Value} {bytes : Nat} (E : Elem t e z bytes) {ops : Array Oper} {rest : List Oper} {o : Oper} {a : Act} {w : World} {Q : Exit → Act → World → Prop} (hgd : o.guard = none) (s x : Operand)
    (ho : o.op = .call { callee := .builtin .append, args := #[s, x], argTypes := #[t, t] }) (base : Nat) (v : Value) (xs : List Value) (hs : a.eval s = v) (hown : Owns e base v xs w)
    (b c : Nat) (news : Array Value) (hx : a.eval x = .slice (some ⟨b, 0, none⟩) news.size c) (hnews : Has w b news e) (h1 : ∀ u ∈ news.toList, u.oneCell' = true) (hm : 0 < news.size) (h63 : xs.length + news.size ≤ 1000000000000) (hbase : base ≤ w.heap.size)
    (h : ∀ g cap w', Owns e base (.slice (some ⟨g, 0, none⟩) (xs.length + news.size) cap) (xs ++ news.toList) w' → w.grownBy w' v.ownBlock → (v.ownBlock = some g ∨ g = w.heap.size) → Below base w w' → wpList Tryd.prog ops Q rest (a.put o.dst (.slice (some ⟨g, 0, none⟩) (xs.length + news.size) cap)) w') : wpList Tryd.prog ops Q (o :: rest) a w := by
  obtain ⟨i, hi, hz0, hz1, hz2⟩ := E.info
  have hbd := E.hb
  refine wpList_append_lies w hgd s x t ho base e i z 1 bytes E.ht hi hz0 hz1 hz2 E.hz (by decide) v xs.length xs hs hown ⟨b, 0, none⟩ news.size c news.toList hx (by simp) (World.news_of_block hnews) h1 hm (by unfold maxLen; omega) (Nat.le_trans (Nat.mul_le_mul h63 hbd) (by decide)) hbase w.heap.size rfl ?_
  intro g cap w' h2 h3 h4 h5
  refine h g cap w' ?_ h3 h4 ((Below.refl base w).grown h3 hbase (fun k hk => (hown.base_le k hk).1))
  show w'.ownsRow base e 1 _ (xs ++ news.toList).length _
  rw [List.length_append, Array.length_toList]; exact h2
end Go.Proofs.YtjhjolnflkekoaaDoor.S
/- The contract of Hex; of what was there nothing changes. -/
namespace Go.Proofs.YtjhjolnflkekoaaDoor.S
open Go.RowKit
namespace Sha
end Sha
end Go.Proofs.YtjhjolnflkekoaaDoor.S
/- The contract of Unhex; of what was there nothing changes. -/
namespace Go.Proofs.YtjhjolnflkekoaaDoor.S
open Go.RowKit
namespace Sha
end Sha
end Go.Proofs.YtjhjolnflkekoaaDoor.S
/- The contract of many: a byte, so often. -/
namespace Go.Proofs.YtjhjolnflkekoaaDoor.S
open Go.RowKit
theorem fold_push (l : List Nat) (acc : ByteArray) : (l.map fun x : Nat => (x : Int)).foldl (fun r n => r.push (UInt8.ofNat n.toNat)) acc = ⟨acc.data ++ (l.map fun x => x.toUInt8).toArray⟩ := by
  induction l generalizing acc with
  | nil => simp
  | cons x l ih =>
    simp only [List.map_cons, List.foldl_cons, ih, Int.toNat_natCast]
    have : (acc.push (UInt8.ofNat x)).data = acc.data.push (UInt8.ofNat x) := rfl
    rw [this]
    congr 1
    apply Array.toList_inj.1
    simp
end Go.Proofs.YtjhjolnflkekoaaDoor.S
/- The document's roots, over Nat: just what its words do. No program in it. -/
namespace Go.Proofs.YtjhjolnflkekoaaDoor.S
namespace Ref
def dg (n : Nat) : List Nat := [n % 65536, n / 65536 % 65536, n / 65536 / 65536 % 65536, n / 65536 / 65536 / 65536]
/-- one digit's product, behind k steps -/
def inn (a : Nat) (b : List Nat) (i : Nat) (o : List Nat) : Nat → List Nat × Nat
  | 0 => (o, 0)
  | k + 1 => match inn a b i o k with
    | (p, c) => (p.set (i + k) (((p.getD (i + k) 0 + a * b.getD k 0 % 18446744073709551616) % 18446744073709551616 + c) % 18446744073709551616 % 65536), ((p.getD (i + k) 0 + a * b.getD k 0 % 18446744073709551616) % 18446744073709551616 + c) % 18446744073709551616 / 65536)
def outer (a b : List Nat) : Nat → List Nat
  | 0 => List.replicate (a.length + b.length) 0
  | i + 1 => match inn (a.getD i 0) b i (outer a b i) b.length with
    | (p, c) => p.set (i + b.length) ((p.getD (i + b.length) 0 + c) % 18446744073709551616)
def tms (a b : List Nat) : List Nat := outer a b a.length
def want (n nt i : Nat) : Nat := if nt ≤ i ∧ i < nt + 4 then (dg n).getD (i - nt) 0 else 0
def ab (a : List Nat) (n nt : Nat) : Nat → Bool
  | 0 => false
  | i + 1 => if a.getD i 0 = want n nt i then ab a n nt i else decide (want n nt i < a.getD i 0)
def addAt (k : Nat) : Nat := 68719476736 / 2 ^ k
def cubed (root : Nat) (d : List Nat) : List Nat := if root = 3 then tms (tms d d) d else tms d d
def nts (root : Nat) : Nat := if root = 3 then 6 else 4
def bit (n root x add : Nat) : Nat :=
  match cubed root (dg ((x + add) % 18446744073709551616)) with
  | q => if ab q n (nts root) q.length then x else (x + add) % 18446744073709551616
def bitsTo (n root : Nat) : Nat → Nat
  | 0 => 0
  | k + 1 => bit n root (bitsTo n root k) (addAt k)
def bitsOf (n root : Nat) : Nat := bitsTo n root 37 % 4294967296
def primes : List Nat := [2, 3, 5, 7, 11, 13, 17, 19, 23, 29, 31, 37, 41, 43, 47, 53, 59, 61, 67, 71, 73, 79, 83, 89, 97, 101, 103, 107, 109, 113, 127, 131, 137, 139, 149, 151, 157, 163, 167, 173, 179, 181, 191, 193, 197, 199, 211, 223, 227, 229, 233, 239, 241, 251, 257, 263, 269, 271, 277, 281, 283, 293, 307, 311]
/-- is n a prime: as the words look for it -/
def lp (n : Nat) : Nat → Nat → Bool → Bool
  | 0, _, is => is
  | f + 1, d, is => if d * d ≤ n ∧ is = true then lp n f (d + 1) (decide (n % d ≠ 0)) else is
def isP (n : Nat) : Bool := lp n 40 2 true
/-- how many primes are below n -/
def cnt (n : Nat) : Nat := (primes.filter (fun p => Nat.blt p n)).length
theorem inn_length (a : Nat) (b : List Nat) (i : Nat) (o : List Nat) (k : Nat) : (inn a b i o k).1.length = o.length := by
  induction k with
  | zero => rfl
  | succ k ih => simp only [inn, List.length_set, ih]
theorem outer_length (a b : List Nat) (i : Nat) : (outer a b i).length = a.length + b.length := by
  induction i with
  | zero => exact List.length_replicate
  | succ i ih => simp only [outer, List.length_set, inn_length, ih]
theorem tms_length (a b : List Nat) : (tms a b).length = a.length + b.length := outer_length a b _
theorem dg_length (n : Nat) : (dg n).length = 4 := rfl
set_option maxRecDepth 100000 in
theorem cnt_facts : ∀ n : Fin 312, (isP n.val = true → 2 ≤ n.val → primes.getD (cnt n.val) 0 = n.val ∧ cnt (n.val + 1) = cnt n.val + 1 ∧ cnt n.val < 64) ∧ (isP n.val = false → cnt (n.val + 1) = cnt n.val) := by decide +kernel
set_option maxRecDepth 100000 in
theorem cnt_low : ∀ n : Fin 312, cnt n.val < 64 := by decide +kernel
theorem cnt_end : cnt 312 = 64 := by decide +kernel
theorem cnt_two : cnt 2 = 0 := by decide +kernel
end Ref
end Go.Proofs.YtjhjolnflkekoaaDoor.S
