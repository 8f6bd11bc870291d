/- Lists that a call makes by append: what they hold; the laws of append at this program's element types. -/
import Derived.Test.YtnepfllbfagfnaaDoorTurn
import Derived.Test.YtnepfllbfagfnaaDoorOut
import Derived.Deep.AppendLies
import Derived.KernelRfl
namespace Go.Proofs.YtnepfllbfagfnaaDoor
open Go.RowKit
/-- an element type of one cell, and the list type of it -/
structure Elem (t e : TypeId) (z : Value) (bytes : Nat) : Prop where
  ht : Tryd.prog.underlying t = some (.slice e)
  hi : (Tryd.prog.info? e).map (fun i => (i.zero, i.size, i.bytes)) = some (some z, 1, bytes)
  hz : z.cells.size = 1
  hb : bytes ≤ 16
theorem el5 : Elem 32 5 (.int .u8 0) 1 := ⟨Tryd.underlying32, by kernel_rfl, rfl, by decide⟩
theorem el40 : Elem 71 64 (.int .u32 0) 4 := ⟨Tryd.underlying71, by kernel_rfl, rfl, by decide⟩
theorem el9 : Elem 38 9 (.string ⟨#[]⟩) 16 := ⟨Tryd.underlying38, by kernel_rfl, rfl, by decide⟩
theorem Elem.info {t e : TypeId} {z : Value} {bytes : Nat} (E : Elem t e z bytes) : ∃ i, Tryd.prog.info? e = some i ∧ i.zero = some z ∧ i.size = 1 ∧ i.bytes = bytes := by
  have h := E.hi
  cases hq : Tryd.prog.info? e with
  | none => rw [hq] at h; simp at h
  | some i =>
    rw [hq] at h
    simp only [Option.map_some, Option.some.injEq, Prod.mk.injEq] at h
    exact ⟨i, rfl, h⟩
/-- the list v, made by the call itself (from block base on), holds these cells -/
def Owns (e : TypeId) (base : Nat) (v : Value) (xs : List Value) (w : World) : Prop := w.ownsRow base e 1 v xs.length xs
theorem Owns.nil (e : TypeId) (base : Nat) (w : World) : Owns e base (.slice none 0 0) [] w := World.ownsRow_nil w base e 1
theorem Owns.alloc {e : TypeId} {base : Nat} {v : Value} {xs : List Value} {w : World} (h : Owns e base v xs w) (o : Obj) : Owns e base v xs (w.alloc o) := World.ownsRow.alloc h o
theorem Owns.base_le {e : TypeId} {base : Nat} {v : Value} {xs : List Value} {w : World} (h : Owns e base v xs w) : ∀ k, v.ownBlock = some k → base ≤ k ∧ k < w.heap.size := World.ownsRow.lt h
theorem Owns.below {e : TypeId} {base : Nat} {v : Value} {xs : List Value} {w w' : World} (h : Owns e base v xs w) (hb : Below w.heap.size w w') : Owns e base v xs w' := by
  obtain ⟨h1, h2⟩ := h
  refine ⟨h1, ?_⟩
  rcases h2 with h2 | ⟨g, cap, cur, hv, hg, hh, h3⟩
  · exact .inl h2
  · exact .inr ⟨g, cap, cur, hv, hg, by rw [hb.block g (Array.getElem?_eq_some_iff.1 hh).1]; exact hh, h3⟩
theorem Owns.form {e : TypeId} {base : Nat} {v : Value} {xs : List Value} {w : World} (h : Owns e base v xs w) (hp : 0 < xs.length) : ∃ g cap, v = .slice (some ⟨g, 0, none⟩) xs.length cap ∧ xs.length ≤ cap ∧ cap ≤ maxLen ∧ base ≤ g ∧ g < w.heap.size ∧ ∀ j, w.cell? ⟨g, j, none⟩ = none ∨ (j < xs.length → w.cell? ⟨g, j, none⟩ = xs[j]?) := by
  obtain ⟨h1, h2⟩ := h
  rcases h2 with ⟨_, h0⟩ | ⟨g, cap, cur, hv, hg, hh, h3, h4, h5, h6⟩
  · omega
  · refine ⟨g, cap, hv, h3, h4, hg, (Array.getElem?_eq_some_iff.1 hh).1, fun j => .inr fun hj => ?_⟩
    have hc : w.cell? ⟨g, j, none⟩ = cur[j]? := by simp [World.cell?, hh]
    rw [hc, ← h6, List.getElem?_take, if_pos (by omega)]; simp
theorem Owns.cell {e : TypeId} {base g cap n : Nat} {xs : List Value} {w : World} (h : Owns e base (.slice (some ⟨g, 0, none⟩) n cap) xs w) (j : Nat) (hj : j < xs.length) : w.cell? ⟨g, j, none⟩ = xs[j]? := by
  obtain ⟨h1, h2⟩ := h
  rcases h2 with ⟨h0, _⟩ | ⟨g', cap', cur, hv, hg, hh, h3, h4, h5, h6⟩
  · simp at h0
  · simp only [Value.slice.injEq, Option.some.injEq, Addr.mk.injEq] at hv
    obtain ⟨⟨rfl, _⟩, _, rfl⟩ := hv
    have hc : w.cell? ⟨g, j, none⟩ = cur[j]? := by simp [World.cell?, hh]
    rw [hc]
    have h7 : xs[j]? = (cur.toList.take (xs.length * 1))[j]? := by rw [h6]
    rw [h7, List.getElem?_take, if_pos (by omega)]; simp
theorem Owns.kept {e : TypeId} {base : Nat} {v v' : Value} {xs : List Value} {w w' : World} (h : Owns e base v xs w) (hg : w.grownBy w' v'.ownBlock) (hne : v.ownBlock = none ∨ v.ownBlock ≠ v'.ownBlock) : Owns e base v xs w' := World.ownsRow.kept h hg hne
theorem wpList_app {t e : TypeId} {z : Value} {bytes : Nat} (E : Elem t e z bytes) {ops : Array Oper} {rest : List Oper} {o : Oper} {a : Act} {w : World} {Q : Exit → Act → World → Prop} (hgd : o.guard = none) (s x : Operand)
    (ho : o.op = .call { callee := .builtin .append, args := #[s, x], argTypes := #[t, t] }) (base : Nat) (v : Value) (xs : List Value) (hs : a.eval s = v) (hown : Owns e base v xs w)
    (b c : Nat) (news : Array Value) (hx : a.eval x = .slice (some ⟨b, 0, none⟩) news.size c) (hnews : Has w b news e) (h1 : ∀ u ∈ news.toList, u.oneCell' = true) (hm : 0 < news.size) (h63 : xs.length + news.size ≤ 1000000000000) (hbase : base ≤ w.heap.size)
    (h : ∀ g cap w', Owns e base (.slice (some ⟨g, 0, none⟩) (xs.length + news.size) cap) (xs ++ news.toList) w' → w.grownBy w' v.ownBlock → (v.ownBlock = some g ∨ g = w.heap.size) → Below base w w' → wpList Tryd.prog ops Q rest (a.put o.dst (.slice (some ⟨g, 0, none⟩) (xs.length + news.size) cap)) w') : wpList Tryd.prog ops Q (o :: rest) a w := by
  obtain ⟨i, hi, hz0, hz1, hz2⟩ := E.info
  have hbd := E.hb
  refine wpList_append_lies w hgd s x t ho base e i z 1 bytes E.ht hi hz0 hz1 hz2 E.hz (by decide) v xs.length xs hs hown ⟨b, 0, none⟩ news.size c news.toList hx (by simp) (World.news_of_block hnews) h1 hm (by unfold maxLen; omega) (Nat.le_trans (Nat.mul_le_mul h63 hbd) (by decide)) hbase w.heap.size rfl ?_
  intro g cap w' h2 h3 h4 h5
  refine h g cap w' ?_ h3 h4 ((Below.refl base w).grown h3 hbase (fun k hk => (hown.base_le k hk).1))
  show w'.ownsRow base e 1 _ (xs ++ news.toList).length _
  rw [List.length_append, Array.length_toList]; exact h2
end Go.Proofs.YtnepfllbfagfnaaDoor
