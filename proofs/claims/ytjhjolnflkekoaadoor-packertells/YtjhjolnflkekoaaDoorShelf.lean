/- Chunks gathered into packs, over texts. No program in it. -/
import Derived.Test.YtjhjolnflkekoaaDoorRd
import Derived.Shelf.Strings.Builder1
import Derived.Shelf.LaysM
import Derived.Shelf.Strconv.Clone
import Derived.WalkKit
import Derived.Test.YtjhjolnflkekoaaDoorProg
namespace Go.Proofs.YtjhjolnflkekoaaDoor
open Go.RowKit
open Pk
set_option linter.unusedVariables false
theorem tot_nil : tot [] = 0 := rfl
theorem tot_app (c d : List ByteArray) : tot (c ++ d) = tot c + tot d := by unfold tot; rw [List.map_append, total_app]
theorem tot_one (x : ByteArray) : tot [x] = x.size := by rw [tot_cons, tot_nil]; omega
theorem inB_mem (l : List ByteArray) (x : ByteArray) : inB l x = true ↔ x ∈ l := by
  rw [inB_iff, List.mem_map]
  exact ⟨fun ⟨y, hy, e⟩ => bs_inj e ▸ hy, fun h => ⟨x, h, rfl⟩⟩
namespace Gt
/-- each once: those of l that neither stand in seen nor ahead of themselves -/
def firsts : List ByteArray → List ByteArray → List ByteArray
  | _, [] => []
  | seen, x :: r => if inB seen x = true then firsts seen r else x :: firsts (seen ++ [x]) r
theorem firsts_met {seen r : List ByteArray} {x : ByteArray} (h : x ∈ seen) : firsts seen (x :: r) = firsts seen r := by rw [firsts, if_pos ((inB_mem _ _).2 h)]
theorem firsts_new {seen r : List ByteArray} {x : ByteArray} (h : x ∉ seen) : firsts seen (x :: r) = x :: firsts (seen ++ [x]) r := by rw [firsts, if_neg (fun e => h ((inB_mem _ _).1 e))]
/-- only what seen holds is asked of it -/
theorem firsts_same : ∀ (l s t : List ByteArray), (∀ x, x ∈ s ↔ x ∈ t) → firsts s l = firsts t l
  | [], _, _, _ => rfl
  | x :: r, s, t, h => by
    by_cases hx : x ∈ s
    · rw [firsts_met hx, firsts_met ((h x).1 hx), firsts_same r s t h]
    · rw [firsts_new hx, firsts_new (fun e => hx ((h x).2 e)), firsts_same r (s ++ [x]) (t ++ [x]) (fun y => by simp [h y])]
theorem firsts_mem : ∀ (l s : List ByteArray) (x : ByteArray), x ∈ firsts s l → x ∈ l ∧ x ∉ s
  | [], _, _, h => by simp [firsts] at h
  | y :: r, s, x, h => by
    by_cases hy : y ∈ s
    · rw [firsts_met hy] at h
      have := firsts_mem r s x h
      exact ⟨by simp [this.1], this.2⟩
    · rw [firsts_new hy] at h
      rcases List.mem_cons.1 h with rfl | h
      · exact ⟨by simp, hy⟩
      · have := firsts_mem r (s ++ [y]) x h
        exact ⟨by simp [this.1], fun e => this.2 (by simp [e])⟩
theorem firsts_nodup : ∀ (l s : List ByteArray), (firsts s l).Nodup
  | [], _ => by simp [firsts]
  | y :: r, s => by
    by_cases hy : y ∈ s
    · rw [firsts_met hy]; exact firsts_nodup r s
    · rw [firsts_new hy, List.nodup_cons]
      exact ⟨fun h => (firsts_mem r _ y h).2 (by simp), firsts_nodup r _⟩
theorem firsts_id : ∀ (l s : List ByteArray), l.Nodup → (∀ x ∈ l, x ∉ s) → firsts s l = l
  | [], _, _, _ => rfl
  | y :: r, s, h, hs => by
    rw [List.nodup_cons] at h
    rw [firsts_new (hs y (by simp)), firsts_id r _ h.2 (fun x hx e => by
      rcases List.mem_append.1 e with e | e
      · exact hs x (by simp [hx]) e
      · have : x = y := by simpa using e
        subst this; exact h.1 hx)]
/-- gathered, with an open pack -/
def go : List ByteArray → List ByteArray → List (List ByteArray)
  | op, [] => if op = [] then [] else [op]
  | op, x :: r => if op ≠ [] ∧ 4096 < tot op + x.size then op :: go [x] r else go (op ++ [x]) r
def packs (c : List ByteArray) : List (List ByteArray) := go [] (firsts [] c)
theorem go_shut {op r : List ByteArray} {x : ByteArray} (h : op ≠ [] ∧ 4096 < tot op + x.size) : go op (x :: r) = op :: go [x] r := by rw [go, if_pos h]
theorem go_open {op r : List ByteArray} {x : ByteArray} (h : ¬ (op ≠ [] ∧ 4096 < tot op + x.size)) : go op (x :: r) = go (op ++ [x]) r := by rw [go, if_neg h]
theorem go_flat : ∀ (l op : List ByteArray), (go op l).flatten = op ++ l
  | [], op => by
    by_cases h : op = []
    · subst h; rfl
    · rw [go, if_neg h]; simp
  | x :: r, op => by
    by_cases h : op ≠ [] ∧ 4096 < tot op + x.size
    · rw [go_shut h, List.flatten_cons, go_flat r [x]]; rfl
    · rw [go_open h, go_flat r]; simp
/-- each pack has a chunk, and no more than it may -/
theorem go_room : ∀ (l op : List ByteArray), (op = [] ∨ op.length = 1 ∨ tot op ≤ 4096) → ∀ p ∈ go op l, p ≠ [] ∧ (p.length = 1 ∨ tot p ≤ 4096)
  | [], op, ho, p, hp => by
    by_cases h : op = []
    · rw [go, if_pos h] at hp; simp at hp
    · rw [go, if_neg h] at hp
      have : p = op := by simpa using hp
      subst this
      exact ⟨h, ho.resolve_left h⟩
  | x :: r, op, ho, p, hp => by
    by_cases h : op ≠ [] ∧ 4096 < tot op + x.size
    · rw [go_shut h] at hp
      rcases List.mem_cons.1 hp with rfl | hp
      · exact ⟨h.1, ho.resolve_left h.1⟩
      · exact go_room r [x] (.inr (.inl rfl)) p hp
    · rw [go_open h] at hp
      refine go_room r (op ++ [x]) (.inr ?_) p hp
      by_cases e : op = []
      · subst e; exact .inl rfl
      · right
        rw [tot_app]
        have : ¬ 4096 < tot op + x.size := fun h2 => h ⟨e, h2⟩
        rw [tot_one]; omega
theorem go_ne {op l : List ByteArray} (h : op ≠ [] ∨ l ≠ []) : go op l ≠ [] := by
  intro e
  have := go_flat l op
  rw [e] at this
  have h2 : op ++ l = [] := this.symm
  rcases List.append_eq_nil_iff.1 h2 with ⟨a, b⟩
  rcases h with h | h
  · exact h a
  · exact h b
/-- the first pack opens by what is open -/
theorem go_head : ∀ (l op : List ByteArray), op ≠ [] → ∃ p q, go op l = p :: q ∧ op <+: p
  | [], op, h => ⟨op, [], by rw [go, if_neg h], List.prefix_refl _⟩
  | x :: r, op, h => by
    by_cases h2 : op ≠ [] ∧ 4096 < tot op + x.size
    · exact ⟨op, go [x] r, go_shut h2, List.prefix_refl _⟩
    · obtain ⟨p, q, e1, e2⟩ := go_head r (op ++ [x]) (by simp)
      exact ⟨p, q, by rw [go_open h2, e1], (List.prefix_append op [x]).trans e2⟩
/-- no two beside one another would have gone into one: the next one's first chunk had no room -/
def Tight : List (List ByteArray) → Prop
  | [] => True
  | [_] => True
  | p :: q :: r => (∀ x t, q = x :: t → 4096 < tot p + x.size) ∧ Tight (q :: r)
theorem go_tight : ∀ (l op : List ByteArray), Tight (go op l)
  | [], op => by
    by_cases h : op = []
    · rw [go, if_pos h]; trivial
    · rw [go, if_neg h]; trivial
  | x :: r, op => by
    by_cases h : op ≠ [] ∧ 4096 < tot op + x.size
    · rw [go_shut h]
      obtain ⟨p, q, e1, e2⟩ := go_head r [x] (by simp)
      have ht := go_tight r [x]
      rw [e1] at ht ⊢
      refine ⟨fun y t e => ?_, ht⟩
      obtain ⟨s, hs⟩ := e2
      rw [e] at hs
      have : x = y := by simpa using (List.cons.inj hs).1
      subst this
      exact h.2
    · rw [go_open h]; exact go_tight r _
/-- one pack's chunks, gathered again, are that pack -/
theorem go_again : ∀ (l op : List ByteArray), op ++ l ≠ [] → ((op ++ l).length = 1 ∨ tot (op ++ l) ≤ 4096) → go op l = [op ++ l]
  | [], op, h, _ => by
    rw [List.append_nil] at h ⊢
    rw [go, if_neg h]
  | x :: r, op, h, hr => by
    have h2 : ¬ (op ≠ [] ∧ 4096 < tot op + x.size) := by
      rintro ⟨h3, h4⟩
      rcases hr with e | e
      · rw [List.length_append, List.length_cons] at e
        have : 0 < op.length := List.length_pos_iff.2 h3
        omega
      · rw [tot_app, tot_cons] at e; omega
    rw [go_open h2, go_again r (op ++ [x]) (by simp) (by rw [List.append_assoc]; exact hr), List.append_assoc]
    rfl
/-- each is a chunk -/
def Cks (c : List ByteArray) : Prop := ∀ x ∈ c, 1 ≤ x.size ∧ x.size ≤ 16384
theorem cks_map {c : List ByteArray} (h : Cks c) : Chunks (c.map bs) := by
  intro y hy
  obtain ⟨x, hx, rfl⟩ := List.mem_map.1 hy
  rw [bs_length]; exact h x hx
theorem nodup_map {c : List ByteArray} (h : c.Nodup) : (c.map bs).Nodup :=
  List.Pairwise.map bs (fun a b hab e => hab (bs_inj e)) h
theorem may_of {p : List ByteArray} (h1 : p ≠ []) (h2 : Cks p) (h3 : p.Nodup) (h4 : p.length = 1 ∨ tot p ≤ 4096) : May (p.map bs) := by
  have hl : 1 ≤ p.length := List.length_pos_iff.2 h1
  have h5 := chunks_total (cks_map h2)
  refine ⟨by rw [List.length_map]; exact hl, ?_, cks_map h2, nodup_map h3, by rw [List.length_map]; exact h4⟩
  rw [List.length_map] at h5 ⊢
  rcases h4 with e | e
  · omega
  · exact Nat.le_trans h5 e
theorem go_sub {c p : List ByteArray} (hp : p ∈ go [] c) : p.Sublist c := by
  have := go_flat c []
  rw [List.nil_append] at this
  rw [← this]
  exact List.sublist_flatten_of_mem hp
theorem packs_may {c : List ByteArray} (hc : Cks c) : ∀ p ∈ packs c, May (p.map bs) := by
  intro p hp
  have h1 := go_room (firsts [] c) [] (.inl rfl) p hp
  have hs := go_sub hp
  exact may_of h1.1 (fun x hx => hc x (firsts_mem _ _ _ (hs.subset hx)).1) ((firsts_nodup c []).sublist hs) h1.2
theorem packs_again {c p : List ByteArray} (hp : p ∈ packs c) : packs p = [p] := by
  have h1 := go_room (firsts [] c) [] (.inl rfl) p hp
  unfold packs
  rw [firsts_id p [] ((firsts_nodup c []).sublist (go_sub hp)) (by simp)]
  have := go_again p [] (by rw [List.nil_append]; exact h1.1) (by rw [List.nil_append]; exact h1.2)
  rw [this, List.nil_append]
theorem packs_flat (c : List ByteArray) : (packs c).flatten = firsts [] c := go_flat _ _
end Gt
end Go.Proofs.YtjhjolnflkekoaaDoor
/- The library's contracts that this program leans on (strings.Builder, strings.Clone), laid at this program. -/
namespace Go.Proofs.YtjhjolnflkekoaaDoor
open Go.Shelf
def Tryd.lays166_ren : Go.Shelf.Ren := ⟨fun | 166 => 49 | 240 => 57 | 276 => 61 | n => n, fun | 0 => 0 | 3 => 3 | 4 => 4 | 9 => 9 | 20 => 20 | 37 => 51 | 70 => 78 | 72 => 80 | 75 => 82 | 164 => 99 | 5 => 5 | 80 => 55 | n => n, fun | n => n⟩
theorem Tryd.lays166 : Go.Proofs.Lays.n166 Tryd.prog Tryd.lays166_ren := {
  mixed := by kernel_rfl
  f166 := Tryd.func49.trans (congrArg some (by kernel_rfl))
  f240 := Tryd.func57.trans (congrArg some (by kernel_rfl))
  f276 := Tryd.func61.trans (congrArg some (by kernel_rfl))
  t0 := Tryd.underlying0
  a0 := Tryd.isAgg0
  z0 := Tryd.sizeOf0
  v0 := Tryd.zeroValue0
  t3 := Tryd.underlying3
  a3 := Tryd.isAgg3
  z3 := Tryd.sizeOf3
  v3 := Tryd.zeroValue3
  t4 := Tryd.underlying4
  a4 := Tryd.isAgg4
  z4 := Tryd.sizeOf4
  v4 := Tryd.zeroValue4
  t9 := Tryd.underlying9
  a9 := Tryd.isAgg9
  z9 := Tryd.sizeOf9
  v9 := Tryd.zeroValue9
  t20 := Tryd.underlying20
  a20 := Tryd.isAgg20
  z20 := Tryd.sizeOf20
  v20 := Tryd.zeroValue20
  t37 := Tryd.underlying51
  a37 := Tryd.isAgg51
  z37 := Tryd.sizeOf51
  v37 := Tryd.zeroValue51
  t70 := Tryd.underlying78
  a70 := Tryd.isAgg78
  z70 := Tryd.sizeOf78
  v70 := Tryd.zeroValue78
  t72 := Tryd.underlying80
  a72 := Tryd.isAgg80
  z72 := Tryd.sizeOf80
  v72 := Tryd.zeroValue80
  t75 := Tryd.underlying82
  a75 := Tryd.isAgg82
  z75 := Tryd.sizeOf82
  v75 := Tryd.zeroValue82
  t164 := Tryd.underlying99
  a164 := Tryd.isAgg99
  z164 := Tryd.sizeOf99
  v164 := Tryd.zeroValue99 }
theorem Tryd.Builder_Extra_166 : Builder.Extra Tryd.prog Tryd.lays166_ren := {
  sizeBuilder := by kernel_rfl
  liesBuilder := by kernel_rfl
  t5 := Tryd.underlying5
  a5 := Tryd.isAgg5
  z5 := Tryd.sizeOf5
  v5 := Tryd.zeroValue5
  infoByte := by kernel_rfl
  cellsByte := by kernel_rfl
  sizeByte := by kernel_rfl
  neB5 := by decide }
open Go.RowKit in
theorem Tryd.Builder_WriteString (B b : Nat) (bs : List Value) (s : ByteArray) (w : World) (h : Lib.IsBuilder 80 5 B b bs w) (hlen : bs.length + s.size ≤ 140737488355328) (hBw : B ≤ w.heap.size) :
    Calls Tryd.prog 49 #[.pointer (some ⟨b, 0, none⟩), .string s] w fun e w' => e = .returned (.tuple #[.int .i64 s.size, .nilIface]) ∧ (Lib.BuilderAt 80 5 B b (.pointer (some ⟨b, 0, none⟩)) (bs ++ Lib.strCells s) w' ∧ Below B w w') := Any.Builder_WriteString Tryd.lays166 Tryd.Builder_Extra_166 B b bs s w h hlen hBw
def Tryd.lays169_ren : Go.Shelf.Ren := ⟨fun | 169 => 47 | n => n, fun | 0 => 0 | 3 => 3 | 9 => 9 | 37 => 51 | 70 => 78 | 72 => 80 | 127 => 96 | 5 => 5 | n => n, fun | n => n⟩
theorem Tryd.lays169 : Go.Proofs.Lays.n169 Tryd.prog Tryd.lays169_ren := {
  mixed := by kernel_rfl
  f169 := Tryd.func47.trans (congrArg some (by kernel_rfl))
  t0 := Tryd.underlying0
  a0 := Tryd.isAgg0
  z0 := Tryd.sizeOf0
  v0 := Tryd.zeroValue0
  t3 := Tryd.underlying3
  a3 := Tryd.isAgg3
  z3 := Tryd.sizeOf3
  v3 := Tryd.zeroValue3
  t9 := Tryd.underlying9
  a9 := Tryd.isAgg9
  z9 := Tryd.sizeOf9
  v9 := Tryd.zeroValue9
  t37 := Tryd.underlying51
  a37 := Tryd.isAgg51
  z37 := Tryd.sizeOf51
  v37 := Tryd.zeroValue51
  t70 := Tryd.underlying78
  a70 := Tryd.isAgg78
  z70 := Tryd.sizeOf78
  v70 := Tryd.zeroValue78
  t72 := Tryd.underlying80
  a72 := Tryd.isAgg80
  z72 := Tryd.sizeOf80
  v72 := Tryd.zeroValue80
  t127 := Tryd.underlying96
  a127 := Tryd.isAgg96
  z127 := Tryd.sizeOf96
  v127 := Tryd.zeroValue96 }
theorem Tryd.Builder_Extra_169 : Builder.Extra Tryd.prog Tryd.lays169_ren := {
  sizeBuilder := by kernel_rfl
  liesBuilder := by kernel_rfl
  t5 := Tryd.underlying5
  a5 := Tryd.isAgg5
  z5 := Tryd.sizeOf5
  v5 := Tryd.zeroValue5
  infoByte := by kernel_rfl
  cellsByte := by kernel_rfl
  sizeByte := by kernel_rfl
  neB5 := by decide }
open Go.RowKit in
theorem Tryd.Builder_String_any (B b : Nat) (l : List UInt8) (w : World) (h : Lib.IsBuilder 80 5 B b (Lib.byteCells l) w) (hBw : B ≤ w.heap.size) :
    Calls Tryd.prog 47 #[.pointer (some ⟨b, 0, none⟩)] w fun e w' => e = .returned (.string ⟨l.toArray⟩) ∧ Below B w w' := Any.Builder_String_any Tryd.lays169 Tryd.Builder_Extra_169 B b l w h hBw
def Tryd.laysM316_ren : Go.Shelf.Ren := ⟨fun | 316 => 51 | n => n, fun | 9 => 9 | 3 => 3 | 4 => 4 | 37 => 51 | 0 => 0 | 127 => 96 | 5 => 5 | n => n, fun | n => n⟩
theorem Tryd.laysM316 : Go.Proofs.LaysM.n316 Tryd.prog Tryd.laysM316_ren := {
  mixed := by kernel_rfl
  f316 := Tryd.func51.trans (congrArg some (by kernel_rfl))
  t9 := Tryd.underlying9
  a9 := Tryd.isAgg9
  z9 := Tryd.sizeOf9
  v9 := Tryd.zeroValue9
  t3 := Tryd.underlying3
  a3 := Tryd.isAgg3
  z3 := Tryd.sizeOf3
  v3 := Tryd.zeroValue3
  t4 := Tryd.underlying4
  a4 := Tryd.isAgg4
  z4 := Tryd.sizeOf4
  v4 := Tryd.zeroValue4
  t37 := Tryd.underlying51
  a37 := Tryd.isAgg51
  z37 := Tryd.sizeOf51
  v37 := Tryd.zeroValue51
  t0 := Tryd.underlying0
  a0 := Tryd.isAgg0
  z0 := Tryd.sizeOf0
  v0 := Tryd.zeroValue0
  t127 := Tryd.underlying96
  a127 := Tryd.isAgg96
  z127 := Tryd.sizeOf96
  v127 := Tryd.zeroValue96
  t5 := Tryd.underlying5
  a5 := Tryd.isAgg5
  z5 := Tryd.sizeOf5
  v5 := Tryd.zeroValue5
  i0 := by kernel_rfl
  i3 := by kernel_rfl
  i4 := by kernel_rfl
  i5 := by kernel_rfl
  i9 := by kernel_rfl
  i37 := by kernel_rfl
  i127 := by kernel_rfl }
open Go.RowKit in
theorem Tryd.stringslite_Clone (s : ByteArray) (w : World) (hlim : s.size ≤ 281474976710656) :
    Calls Tryd.prog 51 #[.string s] w fun e w' => e = .returned (.string s) ∧ Below w.heap.size w w' := Any.stringslite_Clone Tryd.laysM316 s w hlim
open Go.RowKit in
theorem clone_any (s : ByteArray) (w : World) (hs : s.size ≤ 281474976710656) : Calls Tryd.prog 40 #[.string s] w fun e w' => e = .returned (.string s) ∧ Below w.heap.size w w' := by
  go_enter Tryd.func40, Tryd.ntmps40
  go_wp2_with fail
  refine (Tryd.stringslite_Clone s w hs).mono ?_
  rintro e w' ⟨rfl, hb⟩
  go_wp2_with fail
  go_ret
  exact ⟨rfl, hb⟩
end Go.Proofs.YtjhjolnflkekoaaDoor
