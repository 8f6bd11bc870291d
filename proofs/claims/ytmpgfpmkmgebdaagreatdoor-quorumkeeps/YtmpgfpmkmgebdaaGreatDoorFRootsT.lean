/- The contract of Make. -/
import Derived.Test.YtmpgfpmkmgebdaaGreatDoorFSWrit
import Derived.Laws.ResultCell
import Derived.Test.YtmpgfpmkmgebdaaGreatDoorFSOps
import Derived.Test.YtmpgfpmkmgebdaaGreatDoorFTurn
import Derived.Test.YtmpgfpmkmgebdaaGreatDoorFHash
import Derived.Deep.AppendLies
import Derived.KernelRfl
import Derived.Deep.QuietTactic
import Derived.BigQuiet
namespace Go.Proofs.YtmpgfpmkmgebdaaGreatDoor.F
open Go.RowKit
theorem two_new (w : World) (a b : Array Value) (s t : TypeId) : Has ((w.alloc (.cells a s)).alloc (.cells b t)) w.heap.size a s ∧ Has ((w.alloc (.cells a s)).alloc (.cells b t)) (w.heap.size + 1) b t ∧ Below w.heap.size w ((w.alloc (.cells a s)).alloc (.cells b t)) ∧ ((w.alloc (.cells a s)).alloc (.cells b t)).heap.size = w.heap.size + 2 :=
  ⟨(Has.new _ _ _ _ rfl).alloc _, Has.new _ _ _ _ (by simp), belowAlloc (belowAlloc (Below.refl _ _) _) _, by simp⟩
set_option maxRecDepth 20000 in
/-- a result that lies in memory, and an error beside it -/
theorem ret_cell {fn : Func} {a : Act} {W : World} {b : Nat} {cs : List Value} {ty : TypeId} {p u : Tmp} {v : Value} {d : TypeDesc} {Q : Ending → World → Prop}
    (hf : fn.results = #[.cell p ty, .tmp u]) (hp : a.tmps.getD p undef = .pointer (some ⟨b, 0, none⟩)) (hv : a.tmps.getD u undef = v) (hd : a.defers = []) (hc : W.rangeAt b 0 cs)
    (hu : Tryz.prog.underlying ty = some d) (hr : d.isRow = true) (hi : (Tryz.prog.info? ty).map (·.size) = some cs.length) (hQ : Q (.returned (.tuple #[.agg cs.toArray, v])) W) : bodyPost Tryz.prog fn Q Exit.ret a W := by
  refine bodyPost_ret (v := .tuple #[.agg cs.toArray, v]) ?_ hd hQ
  rw [results_cell_tmp hf, hp, hv]
  have hld := run_loadVar_mid (P := Tryz.prog) W b 0 ty cs d hc hu hr hi
  show ((Sem.run Tryz.prog (loadVar ty ⟨b, 0, none⟩) W).andThen _) = _
  rw [hld]
  rfl
end Go.Proofs.YtmpgfpmkmgebdaaGreatDoor.F
/- Lists that a call makes by append: what they hold; the laws of append at this program's element types. -/
namespace Go.Proofs.YtmpgfpmkmgebdaaGreatDoor.F
open Go.RowKit
/-- an element type of one cell, and the list type of it -/
structure Elem (t e : TypeId) (z : Value) (bytes : Nat) : Prop where
  ht : Tryz.prog.underlying t = some (.slice e)
  hi : (Tryz.prog.info? e).map (fun i => (i.zero, i.size, i.bytes)) = some (some z, 1, bytes)
  hz : z.cells.size = 1
  hb : bytes ≤ 16
theorem el5 : Elem 141 5 (.int .u8 0) 1 := ⟨Tryz.underlying141, by kernel_rfl, rfl, by decide⟩
theorem el40 : Elem 206 193 (.int .u32 0) 4 := ⟨Tryz.underlying206, by kernel_rfl, rfl, by decide⟩
theorem el9 : Elem 38 9 (.string ⟨#[]⟩) 16 := ⟨Tryz.underlying38, by kernel_rfl, rfl, by decide⟩
theorem Elem.info {t e : TypeId} {z : Value} {bytes : Nat} (E : Elem t e z bytes) : ∃ i, Tryz.prog.info? e = some i ∧ i.zero = some z ∧ i.size = 1 ∧ i.bytes = bytes := by
  have h := E.hi
  cases hq : Tryz.prog.info? e with
  | none => rw [hq] at h; simp at h
  | some i =>
    rw [hq] at h
    simp only [Option.map_some, Option.some.injEq, Prod.mk.injEq] at h
    exact ⟨i, rfl, h⟩
/-- the list v, made by the call itself (from block base on), holds these cells -/
def Owns (e : TypeId) (base : Nat) (v : Value) (xs : List Value) (w : World) : Prop := w.ownsRow base e 1 v xs.length xs
theorem Owns.nil (e : TypeId) (base : Nat) (w : World) : Owns e base (.slice none 0 0) [] w := World.ownsRow_nil w base e 1
theorem Owns.alloc {e : TypeId} {base : Nat} {v : Value} {xs : List Value} {w : World} (h : Owns e base v xs w) (o : Obj) : Owns e base v xs (w.alloc o) := World.ownsRow.alloc h o
theorem Owns.base_le {e : TypeId} {base : Nat} {v : Value} {xs : List Value} {w : World} (h : Owns e base v xs w) : ∀ k, v.ownBlock = some k → base ≤ k ∧ k < w.heap.size := World.ownsRow.lt h
theorem Owns.below {e : TypeId} {base : Nat} {v : Value} {xs : List Value} {w w' : World} (h : Owns e base v xs w) (hb : Below w.heap.size w w') : Owns e base v xs w' := by
  obtain ⟨h1, h2⟩ := h
  refine ⟨h1, ?_⟩
  rcases h2 with h2 | ⟨g, cap, cur, hv, hg, hh, h3⟩
  · exact .inl h2
  · exact .inr ⟨g, cap, cur, hv, hg, by rw [hb.block g (Array.getElem?_eq_some_iff.1 hh).1]; exact hh, h3⟩
theorem Owns.form {e : TypeId} {base : Nat} {v : Value} {xs : List Value} {w : World} (h : Owns e base v xs w) (hp : 0 < xs.length) : ∃ g cap, v = .slice (some ⟨g, 0, none⟩) xs.length cap ∧ xs.length ≤ cap ∧ cap ≤ maxLen ∧ base ≤ g ∧ g < w.heap.size ∧ ∀ j, w.cell? ⟨g, j, none⟩ = none ∨ (j < xs.length → w.cell? ⟨g, j, none⟩ = xs[j]?) := by
  obtain ⟨h1, h2⟩ := h
  rcases h2 with ⟨_, h0⟩ | ⟨g, cap, cur, hv, hg, hh, h3, h4, h5, h6⟩
  · omega
  · refine ⟨g, cap, hv, h3, h4, hg, (Array.getElem?_eq_some_iff.1 hh).1, fun j => .inr fun hj => ?_⟩
    have hc : w.cell? ⟨g, j, none⟩ = cur[j]? := by simp [World.cell?, hh]
    rw [hc, ← h6, List.getElem?_take, if_pos (by omega)]; simp
theorem Owns.cell {e : TypeId} {base g cap n : Nat} {xs : List Value} {w : World} (h : Owns e base (.slice (some ⟨g, 0, none⟩) n cap) xs w) (j : Nat) (hj : j < xs.length) : w.cell? ⟨g, j, none⟩ = xs[j]? := by
  obtain ⟨h1, h2⟩ := h
  rcases h2 with ⟨h0, _⟩ | ⟨g', cap', cur, hv, hg, hh, h3, h4, h5, h6⟩
  · simp at h0
  · simp only [Value.slice.injEq, Option.some.injEq, Addr.mk.injEq] at hv
    obtain ⟨⟨rfl, _⟩, _, rfl⟩ := hv
    have hc : w.cell? ⟨g, j, none⟩ = cur[j]? := by simp [World.cell?, hh]
    rw [hc]
    have h7 : xs[j]? = (cur.toList.take (xs.length * 1))[j]? := by rw [h6]
    rw [h7, List.getElem?_take, if_pos (by omega)]; simp
theorem Owns.kept {e : TypeId} {base : Nat} {v v' : Value} {xs : List Value} {w w' : World} (h : Owns e base v xs w) (hg : w.grownBy w' v'.ownBlock) (hne : v.ownBlock = none ∨ v.ownBlock ≠ v'.ownBlock) : Owns e base v xs w' := World.ownsRow.kept h hg hne
theorem wpList_app {t e : TypeId} {z : Value} {bytes : Nat} (E : Elem t e z bytes) {ops : Array Oper} {rest : List Oper} {o : Oper} {a : Act} {w : World} {Q : Exit → Act → World → Prop} (hgd : o.guard = none) (s x : Operand)
    (ho : o.op = .call { callee := .builtin .append, args := #[s, x], argTypes := #[t, t] }) (base : Nat) (v : Value) (xs : List Value) (hs : a.eval s = v) (hown : Owns e base v xs w)
    (b c : Nat) (news : Array Value) (hx : a.eval x = .slice (some ⟨b, 0, none⟩) news.size c) (hnews : Has w b news e) (h1 : ∀ u ∈ news.toList, u.oneCell' = true) (hm : 0 < news.size) (h63 : xs.length + news.size ≤ 1000000000000) (hbase : base ≤ w.heap.size)
    (h : ∀ g cap w', Owns e base (.slice (some ⟨g, 0, none⟩) (xs.length + news.size) cap) (xs ++ news.toList) w' → w.grownBy w' v.ownBlock → (v.ownBlock = some g ∨ g = w.heap.size) → Below base w w' → wpList Tryz.prog ops Q rest (a.put o.dst (.slice (some ⟨g, 0, none⟩) (xs.length + news.size) cap)) w') : wpList Tryz.prog ops Q (o :: rest) a w := by
  obtain ⟨i, hi, hz0, hz1, hz2⟩ := E.info
  have hbd := E.hb
  refine wpList_append_lies w hgd s x t ho base e i z 1 bytes E.ht hi hz0 hz1 hz2 E.hz (by decide) v xs.length xs hs hown ⟨b, 0, none⟩ news.size c news.toList hx (by simp) (World.news_of_block hnews) h1 hm (by unfold maxLen; omega) (Nat.le_trans (Nat.mul_le_mul h63 hbd) (by decide)) hbase w.heap.size rfl ?_
  intro g cap w' h2 h3 h4 h5
  refine h g cap w' ?_ h3 h4 ((Below.refl base w).grown h3 hbase (fun k hk => (hown.base_le k hk).1))
  show w'.ownsRow base e 1 _ (xs ++ news.toList).length _
  rw [List.length_append, Array.length_toList]; exact h2
end Go.Proofs.YtmpgfpmkmgebdaaGreatDoor.F
/- The document's roots, over Nat: just what its words do. No program in it. -/
namespace Go.Proofs.YtmpgfpmkmgebdaaGreatDoor.F
namespace Ref
def dg (n : Nat) : List Nat := [n % 65536, n / 65536 % 65536, n / 65536 / 65536 % 65536, n / 65536 / 65536 / 65536]
/-- one digit's product, behind k steps -/
def inn (a : Nat) (b : List Nat) (i : Nat) (o : List Nat) : Nat → List Nat × Nat
  | 0 => (o, 0)
  | k + 1 => match inn a b i o k with
    | (p, c) => (p.set (i + k) (((p.getD (i + k) 0 + a * b.getD k 0 % 18446744073709551616) % 18446744073709551616 + c) % 18446744073709551616 % 65536), ((p.getD (i + k) 0 + a * b.getD k 0 % 18446744073709551616) % 18446744073709551616 + c) % 18446744073709551616 / 65536)
def outer (a b : List Nat) : Nat → List Nat
  | 0 => List.replicate (a.length + b.length) 0
  | i + 1 => match inn (a.getD i 0) b i (outer a b i) b.length with
    | (p, c) => p.set (i + b.length) ((p.getD (i + b.length) 0 + c) % 18446744073709551616)
def tms (a b : List Nat) : List Nat := outer a b a.length
def want (n nt i : Nat) : Nat := if nt ≤ i ∧ i < nt + 4 then (dg n).getD (i - nt) 0 else 0
def ab (a : List Nat) (n nt : Nat) : Nat → Bool
  | 0 => false
  | i + 1 => if a.getD i 0 = want n nt i then ab a n nt i else decide (want n nt i < a.getD i 0)
def addAt (k : Nat) : Nat := 68719476736 / 2 ^ k
def cubed (root : Nat) (d : List Nat) : List Nat := if root = 3 then tms (tms d d) d else tms d d
def nts (root : Nat) : Nat := if root = 3 then 6 else 4
def bit (n root x add : Nat) : Nat :=
  match cubed root (dg ((x + add) % 18446744073709551616)) with
  | q => if ab q n (nts root) q.length then x else (x + add) % 18446744073709551616
def bitsTo (n root : Nat) : Nat → Nat
  | 0 => 0
  | k + 1 => bit n root (bitsTo n root k) (addAt k)
def bitsOf (n root : Nat) : Nat := bitsTo n root 37 % 4294967296
def primes : List Nat := [2, 3, 5, 7, 11, 13, 17, 19, 23, 29, 31, 37, 41, 43, 47, 53, 59, 61, 67, 71, 73, 79, 83, 89, 97, 101, 103, 107, 109, 113, 127, 131, 137, 139, 149, 151, 157, 163, 167, 173, 179, 181, 191, 193, 197, 199, 211, 223, 227, 229, 233, 239, 241, 251, 257, 263, 269, 271, 277, 281, 283, 293, 307, 311]
/-- is n a prime: as the words look for it -/
def lp (n : Nat) : Nat → Nat → Bool → Bool
  | 0, _, is => is
  | f + 1, d, is => if d * d ≤ n ∧ is = true then lp n f (d + 1) (decide (n % d ≠ 0)) else is
def isP (n : Nat) : Bool := lp n 40 2 true
/-- how many primes are below n -/
def cnt (n : Nat) : Nat := (primes.filter (fun p => Nat.blt p n)).length
theorem inn_length (a : Nat) (b : List Nat) (i : Nat) (o : List Nat) (k : Nat) : (inn a b i o k).1.length = o.length := by
  induction k with
  | zero => rfl
  | succ k ih => simp only [inn, List.length_set, ih]
theorem outer_length (a b : List Nat) (i : Nat) : (outer a b i).length = a.length + b.length := by
  induction i with
  | zero => exact List.length_replicate
  | succ i ih => simp only [outer, List.length_set, inn_length, ih]
theorem tms_length (a b : List Nat) : (tms a b).length = a.length + b.length := outer_length a b _
theorem dg_length (n : Nat) : (dg n).length = 4 := rfl
set_option maxRecDepth 100000 in
theorem cnt_facts : ∀ n : Fin 312, (isP n.val = true → 2 ≤ n.val → primes.getD (cnt n.val) 0 = n.val ∧ cnt (n.val + 1) = cnt n.val + 1 ∧ cnt n.val < 64) ∧ (isP n.val = false → cnt (n.val + 1) = cnt n.val) := by decide +kernel
set_option maxRecDepth 100000 in
theorem cnt_low : ∀ n : Fin 312, cnt n.val < 64 := by decide +kernel
theorem cnt_end : cnt 312 = 64 := by decide +kernel
theorem cnt_two : cnt 2 = 0 := by decide +kernel
end Ref
end Go.Proofs.YtmpgfpmkmgebdaaGreatDoor.F
/- The contracts of the document's digits, products and comparisons. -/
namespace Go.Proofs.YtmpgfpmkmgebdaaGreatDoor.F
open Go.RowKit
def U64s (b : List Nat) : Array Value := (b.map fun x : Nat => Value.int .u64 (x : Int)).toArray
theorem U64s_size (b : List Nat) : (U64s b).size = b.length := by simp [U64s]
theorem U64s_get (b : List Nat) (i : Nat) (h : i < b.length) : (U64s b)[i]? = some (.int .u64 ((b.getD i 0 : Nat) : Int)) := by
  simp [U64s, List.getD_eq_getElem?_getD, List.getElem?_eq_getElem h]
theorem U64s_set (b : List Nat) (i x : Nat) : (U64s b).setIfInBounds i (.int .u64 (x : Int)) = U64s (b.set i x) := by
  simp [U64s, List.map_set]
/-- a list that lies in a block from its first cell on -/
def Lies (w : World) (v : Value) (cs : Array Value) (t : TypeId) : Prop := ∃ g cap, v = .slice (some ⟨g, 0, none⟩) cs.size cap ∧ Has w g cs t
theorem Lies.below {w w' : World} {v : Value} {cs : Array Value} {t : TypeId} (h : Lies w v cs t) (hb : Below w.heap.size w w') : Lies w' v cs t := by
  obtain ⟨g, cap, h1, h2⟩ := h
  exact ⟨g, cap, h1, h2.below hb h2.lt⟩
theorem wrap_u64_nat (n : Nat) : IntKind.u64.wrap (n : Int) = ((n % 18446744073709551616 : Nat) : Int) := by
  rw [IntKind.wrap_u64]; omega
theorem vEq (x y z c : Nat) : IntKind.u64.wrap (IntKind.u64.wrap ((x : Int) + IntKind.u64.wrap ((y : Int) * (z : Int))) + (c : Int)) = ((((x + y * z % 18446744073709551616) % 18446744073709551616 + c) % 18446744073709551616 : Nat) : Int) := by
  rw [← Int.natCast_mul, wrap_u64_nat, ← Int.natCast_add, wrap_u64_nat, ← Int.natCast_add, wrap_u64_nat]
theorem tmodN (n : Nat) : ((n : Nat) : Int).tmod 65536 = ((n % 65536 : Nat) : Int) := by
  rw [Int.tmod_eq_emod_of_nonneg (by omega)]; omega
theorem tdivN (n : Nat) (h : n < 18446744073709551616) : IntKind.u64.wrap (((n : Nat) : Int).tdiv 65536) = ((n / 65536 : Nat) : Int) := by
  rw [Int.tdiv_eq_ediv_of_nonneg (by omega), IntKind.wrap_u64]; omega
theorem Has.drews {w : World} {b : Nat} {cs : Array Value} {t : TypeId} (h : Has w b cs t) (n : Nat) : Has (w.drewN n) b cs t := h
set_option maxRecDepth 20000 in
theorem digits_any (n : Nat) (hn : n < 18446744073709551616) (w : World) :
    Calls Tryz.prog 173 #[.int .u64 (n : Int)] w fun e w' => ∃ v, e = .returned v ∧ Lies w' v (U64s (Ref.dg n)) 201 ∧ Below w.heap.size w w' := by
  go_enter Tryz.func173, Tryz.ntmps173
  go_wp2_with fail
  go_ret
  refine ⟨_, rfl, ⟨_, 4, rfl, ?_⟩, (Below.refl _ _).alloc (Nat.le_refl _) _⟩
  have e : U64s (Ref.dg n) = #[Value.int .u64 ((n : Int) % 65536), .int .u64 ((n : Int) / 65536 % 65536), .int .u64 ((n : Int) / 65536 / 65536 % 65536), .int .u64 ((n : Int) / 65536 / 65536 / 65536)] := by simp [U64s, Ref.dg]
  rw [e]
  exact Has.new _ _ _ _ rfl
theorem makes_u64 (n : Nat) (hn : n ≤ 1000000) (w : World) : (Instr.makeSlice 242 (.int .i64 (n : Int)) (.int .i64 (n : Int))).run Tryz.prog w = .ok (.slice (some ⟨w.heap.size, 0, none⟩) n n) (w.alloc (.cells (U64s (List.replicate n 0)) 201)) := by
  have hinfo : (Tryz.prog.info? 201).map (fun i => (i.zero, i.size, i.bytes)) = some (some (.int .u64 0), 1, 8) := by kernel_rfl
  cases hi : Tryz.prog.info? 201 with
  | none => rw [hi] at hinfo; simp at hinfo
  | some i =>
    rw [hi] at hinfo
    simp only [Option.map_some, Option.some.injEq, Prod.mk.injEq] at hinfo
    obtain ⟨h1, h2, h3⟩ := hinfo
    rw [run_make w 242 201 i (.int .u64 0) Tryz.underlying242 hi h1 .i64 .i64 (n : Int) (n : Int) (by omega) (Int.le_refl _) (by rw [h3]; omega) (by omega)]
    have e : madeCells (Value.int .u64 0).cells (n * 1) = U64s (List.replicate n 0) := by
      apply Array.toList_inj.1
      have hz : (Value.int .u64 0).cells = #[.int .u64 0] := rfl
      rw [hz, Nat.mul_one]
      apply List.ext_getElem
      · simp [madeCells, U64s]
      · intro k h1 h2
        simp [madeCells, U64s, Nat.mod_one]
    rw [h2, Int.toNat_natCast, e]
set_option maxRecDepth 20000 in
set_option maxHeartbeats 1000000 in
theorem times_any (a b : List Nat) (ha : a.length ≤ 100) (hb : b.length ≤ 100) (va vb : Value) (w : World) (la : Lies w va (U64s a) 201) (lb : Lies w vb (U64s b) 201) :
    Calls Tryz.prog 174 #[va, vb] w fun e w' => ∃ v, e = .returned v ∧ Lies w' v (U64s (Ref.tms a b)) 201 ∧ Below w.heap.size w w' := by
  obtain ⟨ga, ca, rfl, hA⟩ := la
  obtain ⟨gb, cb, rfl, hB⟩ := lb
  have hmk : ∀ w, (Instr.makeSlice 242 (.int .i64 ((a.length : Int) + (b.length : Int))) (.int .i64 ((a.length : Int) + (b.length : Int)))).run Tryz.prog w = .ok (.slice (some ⟨w.heap.size, 0, none⟩) (a.length + b.length) (a.length + b.length)) (w.alloc (.cells (U64s (List.replicate (a.length + b.length) 0)) 201)) := fun w => by
    rw [← Int.natCast_add]; exact makes_u64 (a.length + b.length) (by omega) w
  have za := U64s_size a
  have zb := U64s_size b
  rw [za, zb]
  clear za zb
  go_enter Tryz.func174, Tryz.ntmps174
  go_wp2_with fail
  go_loopw [6] (fun vi wr => ∃ i : Nat, i ≤ a.length ∧ vi = .int .i64 (i : Int) ∧ Has wr w.heap.size (U64s (Ref.outer a b i)) 201 ∧ Below w.heap.size w wr) (fun vi _ => a.length - (intOf vi).toNat)
  case atStart => exact ⟨0, by omega, rfl, Has.new _ _ _ _ rfl, (Below.refl _ _).alloc (Nat.le_refl _) _⟩
  case round =>
    clear hmk
    obtain ⟨i, hi, rfl, h1, b1⟩ := hrel
    by_cases hlt : i < a.length
    · have i0 : (i : Int) < (a.length : Int) := by omega
      have hol := Ref.outer_length a b i
      have HO : Hid (Ref.outer a b (i + 1) = (Ref.inn (a.getD i 0) b i (Ref.outer a b i) b.length).1.set (i + b.length) (((Ref.inn (a.getD i 0) b i (Ref.outer a b i) b.length).1.getD (i + b.length) 0 + (Ref.inn (a.getD i 0) b i (Ref.outer a b i) b.length).2) % 18446744073709551616)) := rfl
      have HI : Hid (∀ k, Ref.inn (a.getD i 0) b i (Ref.outer a b i) (k + 1) = ((Ref.inn (a.getD i 0) b i (Ref.outer a b i) k).1.set (i + k) ((((Ref.inn (a.getD i 0) b i (Ref.outer a b i) k).1.getD (i + k) 0 + a.getD i 0 * b.getD k 0 % 18446744073709551616) % 18446744073709551616 + (Ref.inn (a.getD i 0) b i (Ref.outer a b i) k).2) % 18446744073709551616 % 65536), (((Ref.inn (a.getD i 0) b i (Ref.outer a b i) k).1.getD (i + k) 0 + a.getD i 0 * b.getD k 0 % 18446744073709551616) % 18446744073709551616 + (Ref.inn (a.getD i 0) b i (Ref.outer a b i) k).2) % 18446744073709551616 / 65536)) := fun k => rfl
      have HN : Hid (Ref.inn (a.getD i 0) b i (Ref.outer a b i) 0 = (Ref.outer a b i, 0)) := rfl
      have HL : Hid (∀ k, (Ref.inn (a.getD i 0) b i (Ref.outer a b i) k).1.length = a.length + b.length) := fun k => by rw [Ref.inn_length, hol]
      generalize hq : Ref.inn (a.getD i 0) b i (Ref.outer a b i) = q at *
      have hq' : Hid _ := hq
      clear hq
      go_wp2_with fail
      go_loopw [7, 8] (fun vc vk wr' => ∃ k : Nat, k ≤ b.length ∧ vk = .int .i64 (k : Int) ∧ vc = .int .u64 (((q k).2 : Nat) : Int) ∧ Has wr' w.heap.size (U64s (q k).1) 201 ∧ Below w.heap.size w wr') (fun _ vk _ => b.length - (intOf vk).toNat)
      case atStart => exact ⟨0, by omega, rfl, by rw [HN.out]; rfl, by rw [HN.out]; exact h1, b1⟩
      case round =>
        clear h1 b1
        obtain ⟨k, hk, rfl, rfl, h1, b1⟩ := hrel
        have hql := HL.out k
        by_cases hkt : k < b.length
        · have k0 : (k : Int) < (b.length : Int) := by omega
          have s0 : (i : Int) + (k : Int) < (a.length : Int) + (b.length : Int) := by omega
          have s1 : (0 : Int) ≤ (i : Int) + (k : Int) := by omega
          have s2 : ((i : Int) + (k : Int)).toNat = i + k := by omega
          have cO := (h1.cell (i + k)).trans (U64s_get _ _ (by rw [hql]; omega))
          have fO := h1.frozen (i + k)
          have cA := ((hA.below b1 hA.lt).cell i).trans (U64s_get _ _ hlt)
          have cB := ((hB.below b1 hB.lt).cell k).trans (U64s_get _ _ hkt)
          have HK := HI.out k
          generalize (q k).1.getD (i + k) 0 = x at *
          generalize a.getD i 0 = y at *
          generalize b.getD k 0 = z at *
          generalize hc : (q k).2 = c at *
          go_wp2_with fail
          go_quiet (fail)
          go_wp2_with fail
          have hV := vEq x y z c
          have hVl : ((x + y * z % 18446744073709551616) % 18446744073709551616 + c) % 18446744073709551616 < 18446744073709551616 := Nat.mod_lt _ (by decide)
          generalize ((x + y * z % 18446744073709551616) % 18446744073709551616 + c) % 18446744073709551616 = V at *
          rw [hV, tmodN, tdivN V hVl]
          have h2 := (h1.drews nq).set (i + k) (.int .u64 ((V % 65536 : Nat) : Int))
          rw [U64s_set] at h2
          exact ⟨⟨k + 1, by omega, rfl, by rw [HK], by rw [HK]; exact h2, (below_draws b1 nq).setCell (Nat.le_refl _) _⟩, by simp [intOf]; omega⟩
        · obtain rfl : k = b.length := by omega
          have s0 : (i : Int) + (b.length : Int) < (a.length : Int) + (b.length : Int) := by omega
          have s1 : (0 : Int) ≤ (i : Int) + (b.length : Int) := by omega
          have s2 : ((i : Int) + (b.length : Int)).toNat = i + b.length := by omega
          have cO := (h1.cell (i + b.length)).trans (U64s_get _ _ (by rw [hql]; omega))
          have fO := h1.frozen (i + b.length)
          have HK := HO.out
          clear HI HN HL HO
          generalize (q b.length).1.getD (i + b.length) 0 = x at *
          generalize (q b.length).2 = c at *
          have hV : Hid (IntKind.u64.wrap ((x : Int) + (c : Int)) = (((x + c) % 18446744073709551616 : Nat) : Int)) := by unfold Hid; rw [← Int.natCast_add, wrap_u64_nat]
          have h2 := h1.set (i + b.length) (.int .u64 (((x + c) % 18446744073709551616 : Nat) : Int))
          rw [U64s_set, ← HK] at h2
          have HF : Hid _ := h2
          clear h2 HK
          go_wp2_with fail
          rw [hV.out]
          exact ⟨⟨i + 1, by omega, rfl, HF.out, b1.setCell (Nat.le_refl _) _⟩, by simp [intOf]; omega⟩
    · obtain rfl : i = a.length := by omega
      go_wp2_with fail
      go_ret
      exact ⟨_, rfl, ⟨_, _, by rw [U64s_size, Ref.tms_length]; rfl, h1⟩, b1⟩
end Go.Proofs.YtmpgfpmkmgebdaaGreatDoor.F
/- The document's roots are the tables' numbers: part RootsA. No program in it. -/
namespace Go.Proofs.YtmpgfpmkmgebdaaGreatDoor.F
namespace Ref
theorem b2_2 : bitsOf 2 2 = 1779033703 := by decide +kernel
theorem b2_3 : bitsOf 3 2 = 3144134277 := by decide +kernel
theorem b2_5 : bitsOf 5 2 = 1013904242 := by decide +kernel
theorem b2_7 : bitsOf 7 2 = 2773480762 := by decide +kernel
theorem b2_11 : bitsOf 11 2 = 1359893119 := by decide +kernel
theorem b2_13 : bitsOf 13 2 = 2600822924 := by decide +kernel
theorem b2_17 : bitsOf 17 2 = 528734635 := by decide +kernel
theorem b2_19 : bitsOf 19 2 = 1541459225 := by decide +kernel
theorem b3_2 : bitsOf 2 3 = 1116352408 := by decide +kernel
theorem b3_3 : bitsOf 3 3 = 1899447441 := by decide +kernel
theorem b3_5 : bitsOf 5 3 = 3049323471 := by decide +kernel
theorem b3_7 : bitsOf 7 3 = 3921009573 := by decide +kernel
theorem b3_11 : bitsOf 11 3 = 961987163 := by decide +kernel
theorem b3_13 : bitsOf 13 3 = 1508970993 := by decide +kernel
theorem b3_17 : bitsOf 17 3 = 2453635748 := by decide +kernel
theorem b3_19 : bitsOf 19 3 = 2870763221 := by decide +kernel
theorem b3_23 : bitsOf 23 3 = 3624381080 := by decide +kernel
theorem b3_29 : bitsOf 29 3 = 310598401 := by decide +kernel
theorem b3_31 : bitsOf 31 3 = 607225278 := by decide +kernel
theorem b3_37 : bitsOf 37 3 = 1426881987 := by decide +kernel
theorem b3_41 : bitsOf 41 3 = 1925078388 := by decide +kernel
theorem b3_43 : bitsOf 43 3 = 2162078206 := by decide +kernel
theorem b3_47 : bitsOf 47 3 = 2614888103 := by decide +kernel
theorem b3_53 : bitsOf 53 3 = 3248222580 := by decide +kernel
end Ref
end Go.Proofs.YtmpgfpmkmgebdaaGreatDoor.F
/- The document's roots are the tables' numbers: part RootsB. No program in it. -/
namespace Go.Proofs.YtmpgfpmkmgebdaaGreatDoor.F
namespace Ref
theorem b3_59 : bitsOf 59 3 = 3835390401 := by decide +kernel
theorem b3_61 : bitsOf 61 3 = 4022224774 := by decide +kernel
theorem b3_67 : bitsOf 67 3 = 264347078 := by decide +kernel
theorem b3_71 : bitsOf 71 3 = 604807628 := by decide +kernel
theorem b3_73 : bitsOf 73 3 = 770255983 := by decide +kernel
theorem b3_79 : bitsOf 79 3 = 1249150122 := by decide +kernel
theorem b3_83 : bitsOf 83 3 = 1555081692 := by decide +kernel
theorem b3_89 : bitsOf 89 3 = 1996064986 := by decide +kernel
theorem b3_97 : bitsOf 97 3 = 2554220882 := by decide +kernel
theorem b3_101 : bitsOf 101 3 = 2821834349 := by decide +kernel
theorem b3_103 : bitsOf 103 3 = 2952996808 := by decide +kernel
theorem b3_107 : bitsOf 107 3 = 3210313671 := by decide +kernel
theorem b3_109 : bitsOf 109 3 = 3336571891 := by decide +kernel
theorem b3_113 : bitsOf 113 3 = 3584528711 := by decide +kernel
theorem b3_127 : bitsOf 127 3 = 113926993 := by decide +kernel
theorem b3_131 : bitsOf 131 3 = 338241895 := by decide +kernel
theorem b3_137 : bitsOf 137 3 = 666307205 := by decide +kernel
theorem b3_139 : bitsOf 139 3 = 773529912 := by decide +kernel
theorem b3_149 : bitsOf 149 3 = 1294757372 := by decide +kernel
theorem b3_151 : bitsOf 151 3 = 1396182291 := by decide +kernel
theorem b3_157 : bitsOf 157 3 = 1695183700 := by decide +kernel
theorem b3_163 : bitsOf 163 3 = 1986661051 := by decide +kernel
theorem b3_167 : bitsOf 167 3 = 2177026350 := by decide +kernel
theorem b3_173 : bitsOf 173 3 = 2456956037 := by decide +kernel
end Ref
end Go.Proofs.YtmpgfpmkmgebdaaGreatDoor.F
/- The document's roots are the tables' numbers: part RootsC. No program in it. -/
namespace Go.Proofs.YtmpgfpmkmgebdaaGreatDoor.F
namespace Ref
theorem b3_179 : bitsOf 179 3 = 2730485921 := by decide +kernel
theorem b3_181 : bitsOf 181 3 = 2820302411 := by decide +kernel
theorem b3_191 : bitsOf 191 3 = 3259730800 := by decide +kernel
theorem b3_193 : bitsOf 193 3 = 3345764771 := by decide +kernel
theorem b3_197 : bitsOf 197 3 = 3516065817 := by decide +kernel
theorem b3_199 : bitsOf 199 3 = 3600352804 := by decide +kernel
theorem b3_211 : bitsOf 211 3 = 4094571909 := by decide +kernel
theorem b3_223 : bitsOf 223 3 = 275423344 := by decide +kernel
theorem b3_227 : bitsOf 227 3 = 430227734 := by decide +kernel
theorem b3_229 : bitsOf 229 3 = 506948616 := by decide +kernel
theorem b3_233 : bitsOf 233 3 = 659060556 := by decide +kernel
theorem b3_239 : bitsOf 239 3 = 883997877 := by decide +kernel
theorem b3_241 : bitsOf 241 3 = 958139571 := by decide +kernel
theorem b3_251 : bitsOf 251 3 = 1322822218 := by decide +kernel
theorem b3_257 : bitsOf 257 3 = 1537002063 := by decide +kernel
theorem b3_263 : bitsOf 263 3 = 1747873779 := by decide +kernel
theorem b3_269 : bitsOf 269 3 = 1955562222 := by decide +kernel
theorem b3_271 : bitsOf 271 3 = 2024104815 := by decide +kernel
theorem b3_277 : bitsOf 277 3 = 2227730452 := by decide +kernel
theorem b3_281 : bitsOf 281 3 = 2361852424 := by decide +kernel
theorem b3_283 : bitsOf 283 3 = 2428436474 := by decide +kernel
theorem b3_293 : bitsOf 293 3 = 2756734187 := by decide +kernel
theorem b3_307 : bitsOf 307 3 = 3204031479 := by decide +kernel
theorem b3_311 : bitsOf 311 3 = 3329325298 := by decide +kernel
end Ref
end Go.Proofs.YtmpgfpmkmgebdaaGreatDoor.F
/- The document's roots are the tables' numbers. No program in it. -/
namespace Go.Proofs.YtmpgfpmkmgebdaaGreatDoor.F
namespace Ref
def initL : List Nat := [1779033703, 3144134277, 1013904242, 2773480762, 1359893119, 2600822924, 528734635, 1541459225]
theorem sq_all : ∀ i, i < 8 → bitsOf (primes.getD i 0) 2 = initL.getD i 0
  | 0, _ => b2_2
  | 1, _ => b2_3
  | 2, _ => b2_5
  | 3, _ => b2_7
  | 4, _ => b2_11
  | 5, _ => b2_13
  | 6, _ => b2_17
  | 7, _ => b2_19
  | n + 8, h => absurd h (by omega)
theorem cu_all : ∀ i, i < 64 → bitsOf (primes.getD i 0) 3 = Sha.cube.getD i 0
  | 0, _ => b3_2
  | 1, _ => b3_3
  | 2, _ => b3_5
  | 3, _ => b3_7
  | 4, _ => b3_11
  | 5, _ => b3_13
  | 6, _ => b3_17
  | 7, _ => b3_19
  | 8, _ => b3_23
  | 9, _ => b3_29
  | 10, _ => b3_31
  | 11, _ => b3_37
  | 12, _ => b3_41
  | 13, _ => b3_43
  | 14, _ => b3_47
  | 15, _ => b3_53
  | 16, _ => b3_59
  | 17, _ => b3_61
  | 18, _ => b3_67
  | 19, _ => b3_71
  | 20, _ => b3_73
  | 21, _ => b3_79
  | 22, _ => b3_83
  | 23, _ => b3_89
  | 24, _ => b3_97
  | 25, _ => b3_101
  | 26, _ => b3_103
  | 27, _ => b3_107
  | 28, _ => b3_109
  | 29, _ => b3_113
  | 30, _ => b3_127
  | 31, _ => b3_131
  | 32, _ => b3_137
  | 33, _ => b3_139
  | 34, _ => b3_149
  | 35, _ => b3_151
  | 36, _ => b3_157
  | 37, _ => b3_163
  | 38, _ => b3_167
  | 39, _ => b3_173
  | 40, _ => b3_179
  | 41, _ => b3_181
  | 42, _ => b3_191
  | 43, _ => b3_193
  | 44, _ => b3_197
  | 45, _ => b3_199
  | 46, _ => b3_211
  | 47, _ => b3_223
  | 48, _ => b3_227
  | 49, _ => b3_229
  | 50, _ => b3_233
  | 51, _ => b3_239
  | 52, _ => b3_241
  | 53, _ => b3_251
  | 54, _ => b3_257
  | 55, _ => b3_263
  | 56, _ => b3_269
  | 57, _ => b3_271
  | 58, _ => b3_277
  | 59, _ => b3_281
  | 60, _ => b3_283
  | 61, _ => b3_293
  | 62, _ => b3_307
  | 63, _ => b3_311
  | n + 64, h => absurd h (by omega)
end Ref
end Go.Proofs.YtmpgfpmkmgebdaaGreatDoor.F
