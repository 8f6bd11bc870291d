/- CodeAny's lemmas. -/
import Derived.Test.YtfbjpgcgdhhfnaaCWorks
namespace Go.Proofs.Ytfbjpgcgdhhfnaa
open Go.RowKit
theorem ofBs_app (a b : List Nat) : ofBs a ++ ofBs b = ofBs (a ++ b) := by
  apply ByteArray.ext
  simp [ofBs, ByteArray.data_append]
theorem rowN_app (m z : Nat) (f : Nat → Nat) : rowN m f ++ rowN z (fun t => f (m + t)) = rowN (m + z) f := by
  apply ext_getD 0
  · simp [rowN_length]
  · intro j hj
    have hj' : j < m + z := by simpa [rowN_length] using hj
    rw [rowN_get _ _ _ hj']
    by_cases h : j < m
    · rw [getD_left _ _ _ _ (by rw [rowN_length]; exact h), rowN_get _ _ _ h]
    · rw [getD_right _ _ _ _ (by rw [rowN_length]; omega), rowN_length, rowN_get _ _ _ (by omega)]; congr 1; omega
theorem payL_first {K : Nat} {b : List Nat} (h : ∀ x ∈ b, x < 256) {i : Nat} (hi : i < K) : payL K b i = rowN (sz K b.length) (fun t => pad b (i * sz K b.length + t)) := rowN_congr fun t _ => pay_first h hi t
theorem el4 : Elem 42 4 (.bool false) 1 := ⟨Try.underlying42, by kernel_rfl, rfl, by decide⟩
/-- which numbers are used -/
def usedC (N : Nat) (hs : List Nat) : Array Value := ((List.range N).map fun i => Value.bool (decide (i ∈ hs))).toArray
theorem usedC_get (N : Nat) (hs : List Nat) (i : Nat) (hi : i < N) : (usedC N hs)[i]? = some (.bool (decide (i ∈ hs))) := by simp [usedC, hi]
theorem usedC_set (N : Nat) (hs : List Nat) (v : Nat) : (usedC N hs).setIfInBounds v (.bool true) = usedC N (hs ++ [v]) := by
  unfold usedC
  rw [List.setIfInBounds_toArray]
  congr 1
  apply List.ext_getElem
  · simp
  · intro i h1 h2
    rw [List.getElem_set]
    by_cases h : v = i
    · subst h; simp
    · rw [if_neg h]; simp [Ne.symm h]
theorem makes_used (N : Nat) (hN : N ≤ 1000000) (w : World) : (Instr.makeSlice 42 (.int .i64 (N : Int)) (.int .i64 (N : Int))).run Try.prog w = .ok (.slice (some ⟨w.heap.size, 0, none⟩) N N) (w.alloc (.cells (usedC N []) 4)) := by
  obtain ⟨i, hi, h1, h2, h3⟩ := el4.info
  rw [run_make w 42 4 i (.bool false) Try.underlying42 hi h1 .i64 .i64 (N : Int) (N : Int) (by omega) (Int.le_refl _) (by rw [h3]; omega) (by omega)]
  have e : madeCells (Value.bool false).cells (N * 1) = usedC N [] := by
    apply Array.toList_inj.1
    have hz : (Value.bool false).cells = #[.bool false] := rfl
    rw [hz, Nat.mul_one]
    apply List.ext_getElem
    · simp [madeCells, usedC]
    · intro k h1 h2
      simp [madeCells, usedC, Nat.mod_one]
  rw [h2, Int.toNat_natCast, e]
theorem own_apart {e e' : TypeId} {base base' : Nat} {v v' : Value} {xs ys : List Value} {w : World} (h : Owns e base v xs w) (h' : Owns e' base' v' ys w) (hne : e ≠ e') : v.ownBlock = none ∨ v.ownBlock ≠ v'.ownBlock := by
  obtain ⟨_, h⟩ := h
  obtain ⟨_, h'⟩ := h'
  rcases h with ⟨rfl, _⟩ | ⟨g, cap, cur, rfl, _, hh, _⟩
  · exact .inl rfl
  · right
    rcases h' with ⟨rfl, _⟩ | ⟨g', cap', cur', rfl, _, hh', _⟩
    · simp [Value.ownBlock]
    · intro he
      simp only [Value.ownBlock, Option.some.injEq] at he
      subst he
      rw [hh] at hh'
      simp only [Option.some.injEq, Obj.cells.injEq] at hh'
      exact hne hh'.2.1
theorem Owns.kept {e : TypeId} {base : Nat} {v v' : Value} {xs : List Value} {w w' : World} (h : Owns e base v xs w) (hg : w.grownBy w' v'.ownBlock) (hne : v.ownBlock = none ∨ v.ownBlock ≠ v'.ownBlock) : Owns e base v xs w' := World.ownsRow.kept h hg hne
theorem Owns.set {e : TypeId} {base : Nat} {v : Value} {xs : List Value} {w : World} (h : Owns e base v xs w) {g i : Nat} {u : Value} (hg : g < base) : Owns e base v xs (w.setCell ⟨g, i, none⟩ u) := by
  obtain ⟨h1, h2⟩ := h
  refine ⟨h1, h2.imp id ?_⟩
  rintro ⟨g', cap, cur, hv, hg', hh, h3⟩
  exact ⟨g', cap, cur, hv, hg', by rw [Below.heap_setCell _ _ _ _ (show g' ≠ g by omega)]; exact hh, h3⟩
theorem wpList_appI2 {ops : Array Oper} {rest : List Oper} {o : Oper} {a : Act} {w : World} {Q : Exit → Act → World → Prop} (hgd : o.guard = none) (s x : Operand)
    (ho : o.op = .call { callee := .builtin .append, args := #[s, x], argTypes := #[32, 32] }) (base : Nat) (v : Value) (l : List Nat) (y n : Nat) (hs : a.eval s = v) (hown : Owns 3 base v (IVs l) w) (b c : Nat) (hx : a.eval x = .slice (some ⟨b, 0, none⟩) 1 c) (hnews : Has w b #[.int .i64 (y : Int)] 3)
    (hn : l.length + 1 = n) (h63 : n ≤ 1000000) (hbase : base ≤ w.heap.size)
    (h : ∀ g cap w', Owns 3 base (.slice (some ⟨g, 0, none⟩) n cap) (IVs (l ++ [y])) w' → w.grownBy w' v.ownBlock → n ≤ cap → Below base w w' → wpList Try.prog ops Q rest (a.put o.dst (.slice (some ⟨g, 0, none⟩) n cap)) w') : wpList Try.prog ops Q (o :: rest) a w := by
  obtain ⟨i, hi, hz0, hz1, hz2⟩ := el3.info
  obtain ⟨v', w', a1, a2, a3, _, a5⟩ := run_append_own_at (P := Try.prog) w base 32 o.type 3 i (.int .i64 0) 1 8 el3.ht hi hz0 hz1 hz2 el3.hz (by decide) v _ _ hown ⟨b, 0, none⟩ 1 c [.int .i64 (y : Int)] rfl (World.news_of_block hnews) (by intro u hu; simp at hu; subst hu; rfl) (by rw [IVs_length]; unfold maxLen; omega) (by rw [IVs_length]; omega) hbase
  have h2 : Owns 3 base v' (IVs (l ++ [y])) w' := by
    show w'.ownsRow base 3 1 v' (IVs (l ++ [y])).length _
    rw [IVs_length, List.length_append]
    rw [IVs_length] at a2
    have e : IVs (l ++ [y]) = IVs l ++ [.int .i64 (y : Int)] := by simp [IVs]
    rw [e]; exact a2
  have h3 := h2
  obtain ⟨_, h4⟩ := h3
  rw [IVs_length, List.length_append] at h4
  rcases h4 with ⟨_, h0⟩ | ⟨g, cap, cur, rfl, hg, _, hc, _⟩
  · simp at h0
  · have e1 : l.length + [y].length = n := hn
    rw [e1] at h2 a1 hc
    exact wpList_appRun hgd s x 32 32 ho (by rw [hs, hx]; exact a1) (h g cap w' h2 a3 hc ((Below.refl base w).grown a3 hbase (fun k hk => (hown.base_le k hk).1)))
theorem wpList_appS2 {ops : Array Oper} {rest : List Oper} {o : Oper} {a : Act} {w : World} {Q : Exit → Act → World → Prop} (hgd : o.guard = none) (s x : Operand)
    (ho : o.op = .call { callee := .builtin .append, args := #[s, x], argTypes := #[28, 28] }) (base : Nat) (v : Value) (ls : List (List Nat)) (l : List Nat) (n : Nat) (hs : a.eval s = v) (hown : Owns 9 base v (SVs ls) w) (b c : Nat) (hx : a.eval x = .slice (some ⟨b, 0, none⟩) 1 c) (hnews : Has w b #[.string (ofBs l)] 9)
    (hn : ls.length + 1 = n) (h63 : n ≤ 1000000) (hbase : base ≤ w.heap.size)
    (h : ∀ g cap w', Owns 9 base (.slice (some ⟨g, 0, none⟩) n cap) (SVs (ls ++ [l])) w' → w.grownBy w' v.ownBlock → n ≤ cap → Below base w w' → wpList Try.prog ops Q rest (a.put o.dst (.slice (some ⟨g, 0, none⟩) n cap)) w') : wpList Try.prog ops Q (o :: rest) a w := by
  obtain ⟨i, hi, hz0, hz1, hz2⟩ := el9.info
  obtain ⟨v', w', a1, a2, a3, _, a5⟩ := run_append_own_at (P := Try.prog) w base 28 o.type 9 i (.string ⟨#[]⟩) 1 16 el9.ht hi hz0 hz1 hz2 el9.hz (by decide) v _ _ hown ⟨b, 0, none⟩ 1 c [.string (ofBs l)] rfl (World.news_of_block hnews) (by intro u hu; simp at hu; subst hu; rfl) (by rw [SVs_length]; unfold maxLen; omega) (by rw [SVs_length]; omega) hbase
  have h2 : Owns 9 base v' (SVs (ls ++ [l])) w' := by
    show w'.ownsRow base 9 1 v' (SVs (ls ++ [l])).length _
    rw [SVs_length, List.length_append]
    rw [SVs_length] at a2
    have e : SVs (ls ++ [l]) = SVs ls ++ [.string (ofBs l)] := by simp [SVs]
    rw [e]; exact a2
  have h3 := h2
  obtain ⟨_, h4⟩ := h3
  rw [SVs_length, List.length_append] at h4
  rcases h4 with ⟨_, h0⟩ | ⟨g, cap, cur, rfl, hg, _, hc, _⟩
  · simp at h0
  · have e1 : ls.length + [l].length = n := hn
    rw [e1] at h2 a1 hc
    exact wpList_appRun hgd s x 28 28 ho (by rw [hs, hx]; exact a1) (h g cap w' h2 a3 hc ((Below.refl base w).grown a3 hbase (fun k hk => (hown.base_le k hk).1)))
/-- a number of 64 bits, without its sign, modulo another one -/
def um (z : Int) (N : Nat) : Nat := (z % 18446744073709551616).toNat % N
theorem um_lt (z : Int) {N : Nat} (h : 0 < N) : um z N < N := Nat.mod_lt _ h
theorem u64_wrap (z : Int) : IntKind.u64.wrap z = ((z % 18446744073709551616).toNat : Int) := by
  simp [IntKind.wrap, IntKind.bits, IntKind.signed]; omega
theorem um_is (z : Int) {N : Nat} (h : 0 < N) (hN : N ≤ 1000000) : wrap64 ((IntKind.u64.wrap z).tmod (N : Int)) = ((um z N : Nat) : Int) := by
  rw [u64_wrap, tmod_nat]
  have : (z % 18446744073709551616).toNat % N < N := Nat.mod_lt _ h
  unfold wrap64 um; omega
def ud (z : Int) (t N : Nat) : Nat := (z % 18446744073709551616).toNat / t % N
theorem ud_lt (z : Int) (t : Nat) {N : Nat} (h : 0 < N) : ud z t N < N := Nat.mod_lt _ h
theorem ud_is (z : Int) (t : Nat) {N : Nat} (h : 0 < N) (hN : N ≤ 1000000) : wrap64 (((IntKind.u64.wrap z).tdiv (t : Int)).tmod (N : Int)) = ((ud z t N : Nat) : Int) := by
  rw [u64_wrap, tdiv_nat, tmod_nat]
  have : (z % 18446744073709551616).toNat / t % N < N := Nat.mod_lt _ h
  unfold wrap64 ud; omega
theorem whole_blob {b : List Nat} {m : Nat} (hb : ∀ x ∈ b, x < 256) (hm : 8 + b.length ≤ m) : (ofBs (rowN m (pad b))).extract 8 (8 + b.length) = ofBs b := by
  apply bs_inj
  rw [bs_extract, bs_ofBs _ (rowN_lt (pad_lt hb)), bs_ofBs b hb]
  apply ext_getD 0
  · simp [rowN_length]; omega
  · intro j hj
    have hj' : j < b.length := by simp [rowN_length] at hj; omega
    rw [List.getD_eq_getElem?_getD, List.getElem?_drop, List.getElem?_take, if_pos (by omega), ← List.getD_eq_getElem?_getD, rowN_get _ _ _ (by omega)]
    unfold pad
    rw [if_neg (by omega)]; congr 1; omega
theorem whole_len {b : List Nat} {m k : Nat} (hb : ∀ x ∈ b, x < 256) (hm : 8 ≤ m) (hk : k < 8) : ∃ hk : k < (ofBs (rowN m (pad b))).size, ((ofBs (rowN m (pad b)))[k]'hk).toNat = lenB b.length k := by
  obtain ⟨h, e⟩ := byte_at (l := rowN m (pad b)) (rowN_lt (pad_lt hb)) (k := k) (by rw [rowN_length]; omega)
  refine ⟨h, ?_⟩
  rw [e, rowN_get _ _ _ (by omega)]
  unfold pad; rw [if_pos hk]
set_option maxRecDepth 20000 in
theorem big_walk (K N more bad : Int) (b : List Nat) (vz : Value) (zs : List Int) (x : Nat) (w : World) (hz : Ints64 w vz zs) (hbig : 3000 < b.length ∨ 100 < zs.length) :
    Calls Try.prog 6 #[cv K N, .string (ofBs b), vz, .int .i64 more, .int .i64 bad, .int .u8 (x : Int)] w fun e w' => e = .returned (.bool true) ∧ Below w.heap.size w w' := by
  have bA : Below w.heap.size w (w.alloc (.cells #[.int .i64 K, .int .i64 N] 24)) := (Below.refl _ _).alloc (Nat.le_refl _) _
  obtain ⟨⟨az, cz, hvz, _⟩, _⟩ := hz
  subst hvz
  have hbs : (ofBs b).size = b.length := ofBs_size b
  unfold cv
  by_cases h1 : 3000 < b.length
  · have d1 : decide ((3000 : Int) < (b.length : Int)) = true := by simp; omega
    go_enter Try.func6, Try.ntmps6
    go_wp2_with fail
    refine (works_true _).mono ?_
    rintro e w1 ⟨rfl, b1⟩
    have B1 := belowCall bA b1
    go_wp2_with fail
    refine (works_true _).mono ?_
    rintro e w2 ⟨rfl, b2⟩
    go_wp2_with fail
    go_ret
    exact ⟨rfl, belowCall B1 b2⟩
  · have d1 : decide ((3000 : Int) < (b.length : Int)) = false := by simp; omega
    have d2 : decide ((100 : Int) < (zs.length : Int)) = true := by simp; omega
    go_enter Try.func6, Try.ntmps6
    go_wp2_with fail
    refine (works_true _).mono ?_
    rintro e w1 ⟨rfl, b1⟩
    have B1 := belowCall bA b1
    go_wp2_with fail
    refine (works_true _).mono ?_
    rintro e w2 ⟨rfl, b2⟩
    go_wp2_with fail
    go_ret
    exact ⟨rfl, belowCall B1 b2⟩
set_option maxRecDepth 20000 in
theorem bad_walk (K N more bad : Int) (b : List Nat) (vz : Value) (zs : List Int) (x : Nat) (w : World) (hz : Ints64 w vz zs) (hb : ∀ y ∈ b, y < 256) (hs : b.length ≤ 3000) (hn : zs.length ≤ 100) (hm : Mx.mayC K N = false) :
    Calls Try.prog 6 #[cv K N, .string (ofBs b), vz, .int .i64 more, .int .i64 bad, .int .u8 (x : Int)] w fun e w' => e = .returned (.bool true) ∧ Below w.heap.size w w' := by
  have bA : Below w.heap.size w (w.alloc (.cells #[.int .i64 K, .int .i64 N] 24)) := (Below.refl _ _).alloc (Nat.le_refl _) _
  have hbox : Has (w.alloc (.cells #[.int .i64 K, .int .i64 N] 24)) w.heap.size #[.int .i64 K, .int .i64 N] 24 := Has.new w w.heap.size _ 24 rfl
  obtain ⟨⟨az, cz, hvz, _⟩, _⟩ := hz
  subst hvz
  have hbs : (ofBs b).size = b.length := ofBs_size b
  have HE : Hid (∀ W, _) := fun W => encode_any K N b W hb
  have he : errE K N b = 1 := by unfold errE; rw [hm]; rfl
  unfold cv at HE ⊢
  have d1 : decide ((3000 : Int) < (b.length : Int)) = false := by simp; omega
  have d2 : decide ((100 : Int) < (zs.length : Int)) = false := by simp; omega
  go_enter Try.func6, Try.ntmps6
  go_wp2_with fail
  refine (works_true _).mono ?_
  rintro e w1 ⟨rfl, b1⟩
  have B1 := belowCall bA b1
  have hb1 := hbox.below b1 (by simp)
  have c0 : w1.cell? ⟨w.heap.size, 0, none⟩ = some (.int .i64 K) := hb1.cell 0
  have c1 : w1.cell? ⟨w.heap.size, 1, none⟩ = some (.int .i64 N) := hb1.cell 1
  go_wp2_with fail
  refine (HE.out w1).mono ?_
  rintro e w2 ⟨r, rfl, _, b2⟩
  rw [he]
  go_wp2_with fail
  go_ret
  exact ⟨rfl, belowCall B1 b2⟩
theorem hs_full {N L : Nat} {hs : List Nat} (hall : ∀ y, y < N → y ∈ hs ∨ L ≤ hs.length) (hle : hs.length ≤ L) (hL : L ≤ N) : hs.length = L := by
  apply Classical.byContradiction
  intro hne
  have hlt : hs.length < L := by omega
  have hsub : List.range N ⊆ hs := fun y hy => (hall y (List.mem_range.1 hy)).resolve_right (by omega)
  have := sub_length (List.range N) hs List.nodup_range (fun _ h => hsub h)
  rw [List.length_range] at this
  omega
def zsOf (hs : List Nat) : List Int := hs.map fun x : Nat => (x : Int)
theorem zsOf_length (hs : List Nat) : (zsOf hs).length = hs.length := by simp [zsOf]
theorem zsOf_get {hs : List Nat} {j : Nat} (hj : j < hs.length) : (zsOf hs).getD j 0 = ((hs.getD j 0 : Nat) : Int) := by
  simp [zsOf, List.getD_eq_getElem?_getD, List.getElem?_eq_getElem hj]
theorem psOf_get {K : Nat} {b hs : List Nat} {j : Nat} (hj : j < hs.length) : (hs.map (payL K b)).getD j [] = payL K b (hs.getD j 0) := by
  simp [List.getD_eq_getElem?_getD, List.getElem?_eq_getElem hj]
theorem nodup_get {hs : List Nat} (h : hs.Nodup) {i j : Nat} (hi : i < hs.length) (hj : j < hs.length) (e : hs.getD i 0 = hs.getD j 0) : i = j := by
  rw [List.getD_eq_getElem?_getD, List.getD_eq_getElem?_getD, List.getElem?_eq_getElem hi, List.getElem?_eq_getElem hj] at e
  simp only [Option.getD_some] at e
  have hp := List.pairwise_iff_getElem.1 h
  rcases Nat.lt_trichotomy i j with h1 | h1 | h1
  · exact absurd e (hp i j hi hj h1)
  · exact h1
  · exact absurd e.symm (hp j i hj hi h1)
theorem set_ne {α : Type} (l : List α) (k j : Nat) (x d : α) (h : k ≠ j) : (l.set k x).getD j d = l.getD j d := by
  rw [List.getD_eq_getElem?_getD, List.getElem?_set_ne h, ← List.getD_eq_getElem?_getD]
theorem set_self {α : Type} (l : List α) (k : Nat) (x d : α) (h : k < l.length) : (l.set k x).getD k d = x := by
  rw [List.getD_eq_getElem?_getD, List.getElem?_set_self h, Option.getD_some]
theorem mem_get {hs : List Nat} {j : Nat} (hj : j < hs.length) : hs.getD j 0 ∈ hs := by
  rw [List.getD_eq_getElem?_getD, List.getElem?_eq_getElem hj]; exact List.getElem_mem hj
theorem good_hs {N : Nat} {hs : List Nat} (h : hs.Nodup ∧ ∀ y ∈ hs, y < N) : goodZ (N : Int) (zsOf hs) := fun j hj => by
  rw [zsOf_length] at hj
  rw [zsOf_get hj]
  have := h.2 _ (mem_get hj)
  refine ⟨⟨by omega, by omega⟩, fun i hi e => ?_⟩
  rw [zsOf_get (by omega)] at e
  have := nodup_get h.1 (show i < hs.length by omega) hj (by omega)
  omega
theorem isOf_hs {K : Nat} {b hs : List Nat} (hb : ∀ x ∈ b, x < 256) (hl : b.length ≤ 32768) : IsOf K (zsOf hs) (hs.map (payL K b)) b := ⟨hl, hb, fun i hi => by
  rw [zsOf_length] at hi
  rw [zsOf_get hi, psOf_get hi, Int.toNat_natCast]⟩
theorem mayC_of {K N : Nat} (h1 : 1 ≤ K) (h2 : K ≤ N) (h3 : N ≤ 12) : Mx.mayC K N = true := by unfold Mx.mayC; simp; omega
theorem dec_of {K N : Nat} {b hs : List Nat} (h1 : 1 ≤ K) (h2 : K ≤ N) (h3 : N ≤ 12) (hn : hs.Nodup ∧ ∀ y ∈ hs, y < N) (hK : K ≤ hs.length) {ps : List (List Nat)} (hp : ps.length = hs.length) (h : IsOf K (zsOf hs) ps b) : DecIs K N (zsOf hs) ps b 0 :=
  .inr (.inr ⟨⟨mayC_of h1 h2 h3, by rw [zsOf_length, hp], good_hs hn⟩, by rw [zsOf_length]; omega, .inl ⟨by rw [Int.toNat_natCast]; exact h, rfl⟩⟩)
theorem dec_hs {K N : Nat} {b hs s : List Nat} {er : Int} (h1 : 1 ≤ K) (h2 : K ≤ N) (h3 : N ≤ 12) (hb : ∀ x ∈ b, x < 256) (hl : b.length ≤ 32768) (hn : hs.Nodup ∧ ∀ y ∈ hs, y < N) (hK : K ≤ hs.length) (h : DecIs K N (zsOf hs) (hs.map (payL K b)) s er) : s = b ∧ er = 0 :=
  h.one (dec_of h1 h2 h3 hn hK (by simp) (isOf_hs hb hl))
theorem reb_hs {K N : Nat} {b hs s : List Nat} {er : Int} {y : Nat} (h1 : 1 ≤ K) (h2 : K ≤ N) (h3 : N ≤ 12) (hb : ∀ x ∈ b, x < 256) (hl : b.length ≤ 32768) (hn : hs.Nodup ∧ ∀ y ∈ hs, y < N) (hK : K ≤ hs.length) (hy : y < N) (h : RebIs K N (zsOf hs) (hs.map (payL K b)) (y : Int) s er) : s = payL K b y ∧ er = 0 := by
  have hd := dec_of h1 h2 h3 hn hK (by simp) (isOf_hs (K := K) (hs := hs) hb hl)
  refine h.one (.inr ⟨⟨mayC_of h1 h2 h3, by omega, by omega⟩, b, 0, hd, .inr ⟨rfl, ?_, rfl⟩⟩)
  rw [Int.toNat_natCast, Int.toNat_natCast]
theorem dec_few {K N : Nat} {b hs s : List Nat} {er : Int} (h1 : 1 ≤ K) (h2 : K ≤ N) (h3 : N ≤ 12) (hn : hs.Nodup ∧ ∀ y ∈ hs, y < N) (hK : hs.length < K) (h : DecIs K N (zsOf hs) (hs.map (payL K b)) s er) : s = [] ∧ er = 54 :=
  h.one (.inr (.inl ⟨⟨mayC_of h1 h2 h3, by rw [zsOf_length]; simp, good_hs hn⟩, by rw [zsOf_length]; omega, rfl, rfl⟩))
/-- one payload laid otherwise, of more than K -/
theorem dec_put {K N k at' x : Nat} {b hs s : List Nat} {er : Int} (h1 : 1 ≤ K) (h2 : K ≤ N) (h3 : N ≤ 12) (hb : ∀ x ∈ b, x < 256) (hl : b.length ≤ 32768) (hn : hs.Nodup ∧ ∀ y ∈ hs, y < N) (hK : K < hs.length) (hk : k < hs.length) (hat : at' < sz K b.length)
    (h : DecIs K N (zsOf hs) ((hs.map (payL K b)).set k ((payL K b (hs.getD k 0)).set at' x)) s er) : er = if (payL K b (hs.getD k 0)).getD at' 0 = x then 0 else 4 := by
  have hpl : (payL K b (hs.getD k 0)).length = sz K b.length := payL_length _ _ _
  by_cases hx : (payL K b (hs.getD k 0)).getD at' 0 = x
  · rw [if_pos hx]
    have e1 : (payL K b (hs.getD k 0)).set at' x = payL K b (hs.getD k 0) := by
      have : x = (payL K b (hs.getD k 0))[at']'(by rw [hpl]; exact hat) := by
        rw [← hx]; generalize payL K b (hs.getD k 0) = P at *
        simp [List.getD_eq_getElem?_getD, List.getElem?_eq_getElem (show at' < P.length by omega)]
      rw [this]; exact List.set_getElem_self _
    have e2 : (hs.map (payL K b)).set k (payL K b (hs.getD k 0)) = hs.map (payL K b) := by
      have : payL K b (hs.getD k 0) = (hs.map (payL K b))[k]'(by simpa using hk) := by
        simp [List.getD_eq_getElem?_getD, List.getElem?_eq_getElem hk]
      rw [this]; exact List.set_getElem_self _
    rw [e1, e2] at h
    exact (dec_hs h1 h2 h3 hb hl hn (by omega) h).2
  · rw [if_neg hx]
    refine (h.one (.inr (.inr ⟨⟨mayC_of h1 h2 h3, by rw [zsOf_length]; simp, good_hs hn⟩, by rw [zsOf_length]; omega, .inr ⟨?_, rfl, rfl⟩⟩))).2
    rintro ⟨b', hl', hb', hp'⟩
    rw [Int.toNat_natCast] at hp'
    rw [zsOf_length] at hp'
    have hpos : ∀ i, i < K → (if i < k then i else i + 1) < hs.length ∧ (if i < k then i else i + 1) ≠ k := fun i hi => by split <;> omega
    have eq : b = b' := by
      refine pay_inj (s := fun i => hs.getD (if i < k then i else i + 1) 0) hb hb' hl hl' h1 (by omega) (fun i hi j hj e => ?_) (fun i hi => ?_) (fun i hi => ?_)
      · have := nodup_get hn.1 (hpos i hi).1 (hpos j hj).1 e
        split at this <;> split at this <;> omega
      · have := hn.2 _ (mem_get (hpos i hi).1); omega
      · have h := hp' _ (hpos i hi).1
        rw [zsOf_get (hpos i hi).1, Int.toNat_natCast] at h
        rw [← h, set_ne _ _ _ _ _ (Ne.symm (hpos i hi).2), psOf_get (hpos i hi).1]
    subst eq
    have h := hp' k hk
    rw [zsOf_get hk, Int.toNat_natCast, set_self _ _ _ _ (by simpa using hk)] at h
    apply hx
    conv => lhs; rw [← h]
    rw [set_self _ _ _ _ (by rw [hpl]; exact hat)]
theorem zsOf_take (hs : List Nat) (k : Nat) : (zsOf hs).take k = zsOf (hs.take k) := by simp [zsOf, List.map_take]
theorem zs64 {N : Nat} {hs : List Nat} (h : ∀ y ∈ hs, y < N) (hN : N ≤ 1000000) (j : Nat) : -9223372036854775808 ≤ (zsOf hs).getD j 0 ∧ (zsOf hs).getD j 0 ≤ 9223372036854775807 := by
  by_cases hj : j < hs.length
  · rw [zsOf_get hj]; have := h _ (mem_get hj); omega
  · rw [List.getD_eq_getElem?_getD, List.getElem?_eq_none (by rw [zsOf_length]; omega)]; simp
theorem cell_put {w : World} {b i : Nat} {cs : Array Value} {t : TypeId} {fz : Nat × Nat} {v : Value} (h : w.heap[b]? = some (.cells cs t fz)) (j : Nat) : (w.setCell ⟨b, i, none⟩ v).cell? ⟨b, j, none⟩ = (cs.setIfInBounds i v)[j]? := by
  have hl : b < w.heap.size := (Array.getElem?_eq_some_iff.1 h).1
  have h' := (Array.getElem?_eq_some_iff.1 h).2
  simp [World.setCell, World.cell?, Array.getElem?_modify, h]
/-- a string as a new row: it can be written -/
theorem conv_bytes2 (w : World) (l : List Nat) (hl : ∀ x ∈ l, x < 256) (hl63 : l.length ≤ 9223372036854775807) (at' x : Nat) (hat : at' < l.length) (hx : x < 256) : ∃ cap w', (convert 9 31 (.string (ofBs l))).run Try.prog w = .ok (.slice (some ⟨w.heap.size, 0, none⟩) l.length cap) w' ∧ Below w.heap.size w w' ∧ w'.heap.size = w.heap.size + 1 ∧ w'.frozen? ⟨w.heap.size, at', none⟩ = false ∧ w'.cell? ⟨w.heap.size, at', none⟩ = some (.int .u8 ((l.getD at' 0 : Nat) : Int)) ∧
    (convert 31 9 (.slice (some ⟨w.heap.size, 0, none⟩) l.length cap)).run Try.prog (w'.setCell ⟨w.heap.size, at', none⟩ (.int .u8 (x : Int))) = .ok (.string (ofBs (l.set at' x))) (w'.setCell ⟨w.heap.size, at', none⟩ (.int .u8 (x : Int))) := by
  have hr := Lib.run_convert_string_bytes (P := Try.prog) w 9 31 5 (ofBs l) Try.underlying9 Try.underlying31 Try.underlying5
  rw [ofBs_size] at hr
  have hnew := Lib.bytesWorld_at_new w 5 (ofBs l)
  have hcs : ∀ j, j < l.length → (Lib.bytesCells w 5 (ofBs l))[j]? = some (.int .u8 ((l.getD j 0 : Nat) : Int)) := fun j hj => by
    have h0 := Lib.bytesWorld_cell w 5 (ofBs l) j (by rw [ofBs_size]; exact hj)
    have e : ((ofBs l).data.toList.getD j 0).toNat = l.getD j 0 := by
      have h1 := bs_ofBs l hl
      unfold bs at h1
      have h2 : l.getD j 0 = ((ofBs l).data.toList.map (·.toNat)).getD j 0 := by rw [h1]
      rw [h2, List.getD_eq_getElem?_getD, List.getD_eq_getElem?_getD, List.getElem?_map]
      cases (ofBs l).data.toList[j]? with
      | none => rfl
      | some x => simp
    rw [e] at h0
    rw [← h0]
    simp [World.cell?, hnew]
  generalize Lib.bytesCells w 5 (ofBs l) = cs at *
  refine ⟨_, _, hr, ⟨rfl, rfl, rfl, by rw [Lib.bytesWorld_size]; omega, fun b hb => Lib.bytesWorld_at_old w 5 _ b hb⟩, Lib.bytesWorld_size w 5 _, ?_, ?_, ?_⟩
  · have hlt : at' < cs.size := by
      have := hcs at' hat
      exact (Array.getElem?_eq_some_iff.1 this).1
    simp [World.frozen?, hnew]; omega
  · have := hcs at' hat
    simp only [World.cell?, hnew]; exact this
  · have hW : (Lib.bytesWorld w 5 (ofBs l)).heap.size = w.heap.size + 1 := Lib.bytesWorld_size w 5 _
    generalize Lib.bytesWorld w 5 (ofBs l) = W at *
    refine conv_row (l := l.set at' x) ⟨_, _, by rw [List.length_set], by rw [List.length_set]; exact hl63, fun y hy => ?_, fun _ => ⟨w.heap.size, 0, rfl, by simp [World.setCell]; omega, fun j hj => ?_⟩⟩
    · rcases List.mem_or_eq_of_mem_set hy with h | h
      · exact hl y h
      · omega
    · rw [List.length_set] at hj
      rw [Nat.zero_add, cell_put hnew]
      by_cases h : at' = j
      · subst h
        rw [set_self _ _ _ _ hat]
        have hlt : at' < cs.size := (Array.getElem?_eq_some_iff.1 (hcs at' hat)).1
        simp [hlt]
      · rw [set_ne _ _ _ _ _ h, Array.getElem?_setIfInBounds_ne h]
        exact hcs j hj
theorem Owns.putS {base g n cap : Nat} {ls : List (List Nat)} {w : World} (h : Owns 9 base (.slice (some ⟨g, 0, none⟩) n cap) (SVs ls) w) (hx : ∀ i x, x ∈ ls.getD i [] → x < 256) (hl : ls.length ≤ 1000000) (k : Nat) (l : List Nat) (hk : k < ls.length) (hb : ∀ x ∈ l, x < 256) :
    base ≤ g ∧ g < w.heap.size ∧ w.frozen? ⟨g, k, none⟩ = false ∧ (∃ c, w.cell? ⟨g, k, none⟩ = some c) ∧ ∀ W : World, W.heap[g]? = w.heap[g]? → W.frozen? ⟨g, k, none⟩ = false ∧ Strs (W.setCell ⟨g, k, none⟩ (.string (ofBs l))) (.slice (some ⟨g, 0, none⟩) n cap) (ls.set k l) := by
  obtain ⟨h1, h2⟩ := h
  rw [SVs_length] at h2
  rcases h2 with ⟨h, _⟩ | ⟨g', cap', cur, he, hg, hh, k1, k2, k3, k4⟩
  · cases h
  · cases he
    have hH : Has w g cur 9 := hh
    have hc : ∀ j, j < ls.length → cur[j]? = some (.string (ofBs (ls.getD j []))) := fun j hj => by
      have e : cur.toList[j]? = (SVs ls)[j]? := by
        rw [← k4, List.getElem?_take, if_pos (by omega)]
      rw [Array.getElem?_toList] at e
      rw [e]
      simp [SVs, List.getElem?_eq_getElem hj, List.getD_eq_getElem?_getD]
    refine ⟨hg, hH.lt, hH.frozen k, ⟨_, (hH.cell k).trans (hc k hk)⟩, fun W hW => ?_⟩
    have hHW : Has W g cur 9 := by unfold Has at hH ⊢; rw [hW]; exact hH
    refine ⟨hHW.frozen k, ?_⟩
    have hH2 := hHW.set k (.string (ofBs l))
    refine ⟨_, cap, by rw [List.length_set], by rw [List.length_set]; omega, fun i x hxi => ?_, fun _ => ⟨g, 0, rfl, hH2.lt, fun j hj => ?_⟩⟩
    · by_cases h : k = i
      · subst h; rw [set_self _ _ _ _ hk] at hxi; exact hb x hxi
      · rw [set_ne _ _ _ _ _ h] at hxi; exact hx i x hxi
    · rw [List.length_set] at hj
      rw [Nat.zero_add, hH2.cell]
      by_cases h : k = j
      · subst h
        rw [set_self _ _ _ _ hk]
        have hlt : k < cur.size := (Array.getElem?_eq_some_iff.1 (hc k hk)).1
        simp [hlt]
      · rw [set_ne _ _ _ _ _ h, Array.getElem?_setIfInBounds_ne h]
        exact hc j hj
end Go.Proofs.Ytfbjpgcgdhhfnaa
