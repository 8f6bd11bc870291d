/- The walk of ShardBack. -/
import Derived.Test.YtnhakbpalfcmfaaDoorSMix
namespace Go.Proofs.YtnhakbpalfcmfaaDoor
open Go.RowKit
/-- the memory of ShardBack: the shard and the object -/
structure SbW (c o : Array Value) (w W : World) : Prop where
  hs : Has W w.heap.size c 25
  ho : Has W (w.heap.size + 1) o 27
  bl : Below w.heap.size w W
theorem SbW.start (w : World) (c o : Array Value) : SbW c o w ((w.alloc (.cells c 25)).alloc (.cells o 27)) := by
  obtain ⟨h1, h2, h3, h4⟩ := two_new w c o 25 27
  exact ⟨h1, h2, h3⟩
theorem SbW.next {c o : Array Value} {w W W' : World} (h : SbW c o w W) (hb : Below W.heap.size W W') : SbW c o w W' :=
  ⟨h.hs.below hb h.hs.lt, h.ho.below hb h.ho.lt, belowCall h.bl hb⟩
theorem SbW.alloc {c o : Array Value} {w W : World} (h : SbW c o w W) (b : Obj) : SbW c o w (W.alloc b) := h.next ((Below.refl _ _).alloc (Nat.le_refl _) _)
theorem Has.put5 {W : World} {b0 b : Nat} {cs : Array Value} {ty : TypeId} (h : Has W b0 cs ty) (hb : b0 ≠ b) (v0 v1 v2 v3 v4 : Value) : Has (((((W.setCell ⟨b, 0, none⟩ v0).setCell ⟨b, 1, none⟩ v1).setCell ⟨b, 2, none⟩ v2).setCell ⟨b, 3, none⟩ v3).setCell ⟨b, 4, none⟩ v4) b0 cs ty :=
  ((((h.other _ _ hb).other _ _ hb).other _ _ hb).other _ _ hb).other _ _ hb
theorem SbW.put {c o : Array Value} {w W : World} {b : Nat} (h : SbW c o w W) (hb : w.heap.size + 1 < b) (v0 v1 v2 v3 v4 : Value) : SbW c o w (((((W.setCell ⟨b, 0, none⟩ v0).setCell ⟨b, 1, none⟩ v1).setCell ⟨b, 2, none⟩ v2).setCell ⟨b, 3, none⟩ v3).setCell ⟨b, 4, none⟩ v4) :=
  ⟨h.hs.put5 (by omega) _ _ _ _ _, h.ho.put5 (by omega) _ _ _ _ _, below_put5 h.bl (by omega) _ _ _ _ _⟩
set_option maxRecDepth 20000 in
theorem back_long (K N : Int) (d : ByteArray) (i : Int) (p a t : ByteArray) (z y : Int) (h : 20000 < p.size ∨ 20000 < t.size ∨ 100 < d.size ∨ 300 < a.size) (w : World) (hl : Lay w) :
    Calls Tryd.prog 5 #[.agg (shc K N d i p), obv a t, .int .i64 z, .int .u8 y] w fun e w' => e = .returned (.bool true) ∧ Below w.heap.size w w' := by
  have S0 := SbW.start w (shc K N d i p) #[.string a, .string t]
  have hfin := awake_any _ (hl.below S0.bl)
  unfold shc obv
  unfold shc at hfin
  go_enter Tryd.func5, Tryd.ntmps5
  by_cases h1 : 20000 < p.size
  · have q1 : (20000 : Int) < (p.size : Int) := by omega
    go_wp2_with fail
    refine hfin.mono ?_
    rintro e w1 ⟨rfl, b1⟩
    go_wp2_with fail
    go_ret
    exact ⟨rfl, belowCall S0.bl b1⟩
  have q1 : ¬ (20000 : Int) < (p.size : Int) := by omega
  by_cases h2 : 20000 < t.size
  · have q2 : (20000 : Int) < (t.size : Int) := by omega
    go_wp2_with fail
    refine hfin.mono ?_
    rintro e w1 ⟨rfl, b1⟩
    go_wp2_with fail
    go_ret
    exact ⟨rfl, belowCall S0.bl b1⟩
  have q2 : ¬ (20000 : Int) < (t.size : Int) := by omega
  by_cases h3 : 100 < d.size
  · have q3 : (100 : Int) < (d.size : Int) := by omega
    go_wp2_with fail
    refine hfin.mono ?_
    rintro e w1 ⟨rfl, b1⟩
    go_wp2_with fail
    go_ret
    exact ⟨rfl, belowCall S0.bl b1⟩
  have q3 : ¬ (100 : Int) < (d.size : Int) := by omega
  have q4 : (300 : Int) < (a.size : Int) := by omega
  go_wp2_with fail
  refine hfin.mono ?_
  rintro e w1 ⟨rfl, b1⟩
  go_wp2_with fail
  go_ret
  exact ⟨rfl, belowCall S0.bl b1⟩
/-- what Read of any object tells, and that Make makes it again -/
theorem back_read (a t : ByteArray) : ∃ K' N' d' i' p' E', Hid (∀ w, Lay w → Calls Tryd.prog 9 #[.agg #[.string a, .string t]] w fun e w' => e = .returned (.tuple #[.agg (shc K' N' d' i' p'), .int .i64 E']) ∧ Below w.heap.size w w') ∧ ((E' = 4) ∨ (E' = 0 ∧ Hid (∀ w, Lay w → Calls Tryd.prog 7 #[.agg (shc K' N' d' i' p')] w fun e w' => e = .returned (.tuple #[.agg #[.string a, .string t], .int .i64 0]) ∧ Below w.heap.size w w'))) := by
  refine ⟨_, _, _, _, _, _, fun w hl => by have := read_any a t w hl; rw [rdV_eq] at this; exact this, ?_⟩
  unfold rE rK rD rP
  by_cases h : rdOk a t = true
  · right
    simp only [h, if_true]
    obtain ⟨h1, h2, h3⟩ := rd_is h
    refine ⟨trivial, fun w hl => ?_⟩
    have := make_any (fB t 4) (fB t 5) (fD t) (fB t 6) (fP t) w hl
    unfold mkV obv at this
    rw [h1, h2, h3] at this
    exact this
  · left
    rw [if_neg h]
set_option maxRecDepth 20000 in
set_option maxHeartbeats 4000000 in
theorem back_no (K N : Int) (d : ByteArray) (i : Int) (p a t : ByteArray) (z y : Int) (h1 : p.size ≤ 20000) (h2 : t.size ≤ 20000) (h3 : d.size ≤ 100) (h4 : a.size ≤ 300) (hk : mkE K N d i p ≠ 0) (w : World) (hl : Lay w) :
    Calls Tryd.prog 5 #[.agg (shc K N d i p), obv a t, .int .i64 z, .int .u8 y] w fun e w' => e = .returned (.bool true) ∧ Below w.heap.size w w' := by
  obtain ⟨E, hE, HS⟩ : ∃ E : Int, (E != 0) = true ∧ Hid (∀ w, Lay w → Calls Tryd.prog 7 #[.agg (shc K N d i p)] w fun e w' => e = .returned (.tuple #[.agg #[.string ⟨#[]⟩, .string ⟨#[]⟩], .int .i64 E]) ∧ Below w.heap.size w w') := by
    refine ⟨mkE K N d i p, by rw [bne_iff_ne]; exact hk, fun w hl => ?_⟩
    have := make_any K N d i p w hl
    unfold mkV obv mkN mkD at this
    rw [if_neg hk, if_neg hk] at this
    exact this
  have S0 := SbW.start w (shc K N d i p) #[.string a, .string t]
  have hfin := awake_any _ (hl.below S0.bl)
  obtain ⟨K', N', d', i', p', E', HR, hE'⟩ := back_read a t
  have q1 : ¬ (20000 : Int) < (p.size : Int) := by omega
  have q2 : ¬ (20000 : Int) < (t.size : Int) := by omega
  have q3 : ¬ (100 : Int) < (d.size : Int) := by omega
  have q4 : ¬ (300 : Int) < (a.size : Int) := by omega
  unfold shc obv
  unfold shc at hfin
  go_enter Tryd.func5, Tryd.ntmps5
  go_wp2_with fail
  refine hfin.mono ?_
  rintro e w1 ⟨rfl, b1⟩
  have S1 := S0.next b1
  clear b1 hfin S0
  have o0 := (obj_cells S1.ho).1
  have o1 := (obj_cells S1.ho).2.1
  go_wp2_with fail
  refine (HR.out _ (hl.below S1.bl)).mono ?_
  rintro e w2 ⟨rfl, b2⟩
  have S2 := S1.next b2
  clear b2 S1 HR o0 o1
  unfold shc
  have S3 := S2.alloc (.cells (shc K' N' d' i' p') 25)
  have T3 : Has (w2.alloc (.cells (shc K' N' d' i' p') 25)) w2.heap.size (shc K' N' d' i' p') 25 := Has.new _ _ _ _ rfl
  have hn2 : w.heap.size + 1 < w2.heap.size := S2.ho.lt
  rcases hE' with hE' | ⟨hE', HM⟩
  · subst hE'
    obtain ⟨c0, c1, c2, c3, c4⟩ := shc_cells S3.hs
    unfold shc at c0 c1 c2 c3 c4
    go_wp2_with fail
    refine (HS.out _ (hl.below S3.bl)).mono ?_
    rintro e w5 ⟨rfl, b5⟩
    have S5 := S3.next b5
    have T5 := T3.below b5 T3.lt
    clear b5 S3 T3 S2 c0 c1 c2 c3 c4 HS
    go_wp2_with fail
    go_ret
    exact ⟨rfl, (S5.alloc _).bl⟩
  · subst hE'
    go_wp2_with fail
    refine (HM.out _ (hl.below S3.bl)).mono ?_
    rintro e w3 ⟨rfl, b3⟩
    have S4 := (S3.next b3).alloc (.cells #[.string a, .string t] 27)
    have T4 := (T3.below b3 T3.lt).alloc (.cells #[.string a, .string t] 27)
    clear b3 S3 T3 S2 HM
    have o0 := (obj_cells S4.ho).1
    have o1 := (obj_cells S4.ho).2.1
    obtain ⟨c0, c1, c2, c3, c4⟩ := shc_cells S4.hs
    go_wp2_with fail
    refine (HS.out _ (hl.below S4.bl)).mono ?_
    rintro e w5 ⟨rfl, b5⟩
    have S5 := S4.next b5
    have T5 := T4.below b5 T4.lt
    clear b5 S4 T4 c0 c1 c2 c3 c4 o0 o1 HS
    go_wp2_with fail
    go_ret
    exact ⟨rfl, (S5.alloc _).bl⟩
/-- what Read of any object tells -/
theorem read_told (a t : ByteArray) : ∃ K' N' d' i' p', Hid (∀ w, Lay w → Calls Tryd.prog 9 #[.agg #[.string a, .string t]] w fun e w' => e = .returned (.tuple #[.agg (shc K' N' d' i' p'), .int .i64 (rE a t)]) ∧ Below w.heap.size w w') :=
  ⟨_, _, _, _, _, fun w hl => by have := read_any a t w hl; rw [rdV_eq] at this; exact this⟩
theorem read_fails (a t : ByteArray) (h : rdOk a t = false) : ∃ K' N' d' i' p', Hid (∀ w, Lay w → Calls Tryd.prog 9 #[.agg #[.string a, .string t]] w fun e w' => e = .returned (.tuple #[.agg (shc K' N' d' i' p'), .int .i64 4]) ∧ Below w.heap.size w w') := by
  have := read_told a t
  rw [show rE a t = 4 by unfold rE; rw [h]; rfl] at this
  exact this
theorem bytes_told (w : World) (s : ByteArray) : ∃ W cap, (convert 9 43 (.string s)).run Tryd.prog w = .ok (.slice (some ⟨w.heap.size, 0, none⟩) s.size cap) W ∧ BRow W w.heap.size (bs s) ∧ Below w.heap.size w W ∧ s.size ≤ cap :=
  ⟨_, _, Lib.run_convert_string_bytes (P := Tryd.prog) w 9 43 5 s Tryd.underlying9 Tryd.underlying43 Tryd.underlying5, brow_new w s, Lib.bytesWorld_below w 5 s, by have := grownCap_ge w s.size 0 5; omega⟩
theorem SbW.set9 {c o : Array Value} {w W : World} {b k : Nat} {v : Value} (h : SbW c o w W) (hb : w.heap.size + 1 < b) : SbW c o w (W.setCell ⟨b, k, none⟩ v) :=
  ⟨h.hs.other _ _ (by show w.heap.size ≠ b; omega), h.ho.other _ _ (by show w.heap.size + 1 ≠ b; omega), belowSet h.bl b k _ (by omega)⟩
theorem place (z : Int) (n : Nat) (h0 : 0 < n) (h1 : n ≤ 100000) : ∃ k : Nat, k < n ∧ wrap64 ((IntKind.u64.wrap z).tmod (n : Int)) = (k : Int) := by
  have e2 : 0 ≤ IntKind.u64.wrap z := by rw [IntKind.wrap_u64]; omega
  generalize IntKind.u64.wrap z = u at *
  obtain ⟨m, rfl⟩ := Int.eq_ofNat_of_zero_le e2
  have hm : m % n < n := Nat.mod_lt _ h0
  refine ⟨m % n, hm, ?_⟩
  rw [Int.tmod_eq_emod_of_nonneg (by omega), ← Int.natCast_emod]
  generalize m % n = r at *
  unfold wrap64
  omega
theorem bent_cases {X Y : ByteArray} (h : rdOk X Y = true) (k yn : Nat) (hk : k < Y.size) (hy : yn < 256) : ∃ f, rE X (ofBs ((bs Y).set k yn)) = f ∧ ((bs Y).getD k 0 = yn ∧ f = 0 ∨ (bs Y).getD k 0 ≠ yn ∧ f = 4 ∨ (bs Y).getD k 0 ≠ yn ∧ f = 0 ∧ 4 ≤ k ∧ k < Y.size - 32 ∧ ∃ D : ByteArray, Hid (∀ w, Lay w → Calls Tryd.prog 17 #[.string (Y.extract 0 (Y.size - 32))] w fun e w' => e = .returned (.string D) ∧ Below w.heap.size w w') ∧ Hid (∀ w, Lay w → Calls Tryd.prog 17 #[.string (ofBs (((bs Y).set k yn).take (Y.size - 32)))] w fun e w' => e = .returned (.string D) ∧ Below w.heap.size w w')) := by
  have h7 := (rd_same_len h).2
  have hkl : k < (bs Y).length := by rw [bs_length]; exact hk
  have hlt : ∀ x ∈ (bs Y).set k yn, x < 256 := fun x hx => by
    rcases List.mem_or_eq_of_mem_set hx with hx | rfl
    · exact bs_lt Y x hx
    · exact hy
  have hbs : bs (ofBs ((bs Y).set k yn)) = (bs Y).set k yn := bs_ofBs _ hlt
  refine ⟨_, rfl, ?_⟩
  by_cases hw : (bs Y).getD k 0 = yn
  · left
    have e : (bs Y).set k yn = bs Y := by
      subst hw
      rw [List.getD_eq_getElem?_getD, List.getElem?_eq_getElem hkl]
      simp
    rw [e, ofBs_bs]
    exact ⟨hw, by unfold rE; rw [h]; rfl⟩
  · right
    cases hq : rdOk X (ofBs ((bs Y).set k yn)) with
    | false => left; exact ⟨hw, by unfold rE; rw [hq]; rfl⟩
    | true =>
      right
      obtain ⟨h4, h5, h6⟩ := rd_bent h k yn hk hbs hw hq
      rw [hbs] at h6
      refine ⟨hw, by unfold rE; rw [hq]; rfl, h4, h5, ofBs (Sha.digest ((bs Y).take (Y.size - 32))), fun w hl => ?_, fun w hl => ?_⟩
      · have := sum_any w hl.ht (Y.extract 0 (Y.size - 32)) (by rw [ByteArray.size_extract]; omega)
        rw [bs_extract, List.drop_zero] at this
        exact this
      · have := sum_any w hl.ht (ofBs (((bs Y).set k yn).take (Y.size - 32))) (by rw [ofBs_size, List.length_take, List.length_set, bs_length]; omega)
        rw [bs_ofBs _ (fun x hx => hlt x (List.mem_of_mem_take hx)), ← h6] at this
        exact this
section
variable {ev : Operand → Value} {o : Oper} {w : World} {x y : Operand}
theorem rn_eq9T {u : ByteArray} {t : TypeId} (ho : o.op = .binOp .eql 9 x y t) (hx : ev x = .string u) (hy : ev y = .string u) : (execOp ev o).run Tryd.prog w = .ok (.value (.bool true)) w := by
  simp [execOp, ho, hx, hy, go_sem]
theorem rn_neT {u v : Int} {t : TypeId} (ho : o.op = .binOp .neq 5 x y t) (hx : ev x = .int .u8 u) (hy : ev y = .int .u8 v) (h : u ≠ v) : (execOp ev o).run Tryd.prog w = .ok (.value (.bool true)) w := by
  simp [execOp, ho, hx, hy, go_sem, h]
theorem rn_neF {u : Int} {t : TypeId} (ho : o.op = .binOp .neq 5 x y t) (hx : ev x = .int .u8 u) (hy : ev y = .int .u8 u) : (execOp ev o).run Tryd.prog w = .ok (.value (.bool false)) w := by
  simp [execOp, ho, hx, hy, go_sem]
theorem rn_eq29T {u : Int} {t : TypeId} (ho : o.op = .binOp .eql 29 x y t) (hx : ev x = .int .i64 u) (hy : ev y = .int .i64 u) : (execOp ev o).run Tryd.prog w = .ok (.value (.bool true)) w := by
  simp [execOp, ho, hx, hy, go_sem]
theorem rn_eq29F {u v : Int} {t : TypeId} (ho : o.op = .binOp .eql 29 x y t) (hx : ev x = .int .i64 u) (hy : ev y = .int .i64 v) (h : u ≠ v) : (execOp ev o).run Tryd.prog w = .ok (.value (.bool false)) w := by
  simp [execOp, ho, hx, hy, go_sem, h]
theorem rn_geT {u v : Int} {t : TypeId} (ho : o.op = .binOp .geq 3 x y t) (hx : ev x = .int .i64 u) (hy : ev y = .int .i64 v) (h : v ≤ u) : (execOp ev o).run Tryd.prog w = .ok (.value (.bool true)) w := by
  simp [execOp, ho, hx, hy, go_sem, h]
theorem rn_ltT {u v : Int} {t : TypeId} (ho : o.op = .binOp .lss 3 x y t) (hx : ev x = .int .i64 u) (hy : ev y = .int .i64 v) (h : u < v) : (execOp ev o).run Tryd.prog w = .ok (.value (.bool true)) w := by
  simp [execOp, ho, hx, hy, go_sem, h]
theorem rn_sl43 {g n c hi : Nat} (ho : o.op = .slice 43 x none (some y) none) (hx : ev x = .slice (some ⟨g, 0, none⟩) n c) (hy : ev y = .int .i64 (hi : Int)) (h : hi ≤ c) : (execOp ev o).run Tryd.prog w = .ok (.value (.slice (some ⟨g, 0, none⟩) hi c)) w := by
  have q : (hi : Int) ≤ (c : Int) := by omega
  simp [execOp, ho, hx, hy, go_sem, q]
theorem rn_conv43 {u v : Value} (ho : o.op = .convert 43 9 x) (hx : ev x = u) (hc : (convert 43 9 u).run Tryd.prog w = .ok v w) : (execOp ev o).run Tryd.prog w = .ok (.value v) w := by
  simp [execOp, ho, hx, go_sem, hc]
end
/-- what the slots of the last comparison hold: c says which case it is -/
def gv (c : Nat) (b g n cap k en was yn : Nat) (Y Z D : ByteArray) (f : Int) : Nat → Value
  | 185 => .int .u8 (was : Int)
  | 186 => .int .u8 (yn : Int)
  | 187 => .bool (c != 1)
  | 188 => .bool (c != 1)
  | 189 => if c = 1 then undef else .int .i64 f
  | 190 => if c = 1 then undef else .bool (c == 3)
  | 191 => .bool (c == 3)
  | 192 => .bool (c == 3)
  | 193 => if c = 3 then .int .i64 (k : Int) else undef
  | 194 => if c = 3 then .bool true else undef
  | 195 => .bool (c == 3)
  | 196 => .bool (c == 3)
  | 197 => if c = 3 then .int .i64 (k : Int) else undef
  | 198 => if c = 3 then .int .i64 (en : Int) else undef
  | 199 => if c = 3 then .bool true else undef
  | 200 => .bool (c == 3)
  | 201 => .bool (c == 3)
  | 202 => if c = 3 then .pointer (some ⟨b, 1, none⟩) else undef
  | 203 => if c = 3 then .string Y else undef
  | 204 => if c = 3 then .int .i64 (en : Int) else undef
  | 205 => if c = 3 then .string (Y.extract 0 en) else undef
  | 206 => if c = 3 then .string D else undef
  | 207 => if c = 3 then .slice (some ⟨g, 0, none⟩) n cap else undef
  | 208 => if c = 3 then .int .i64 (en : Int) else undef
  | 209 => if c = 3 then .slice (some ⟨g, 0, none⟩) en cap else undef
  | 210 => if c = 3 then .string Z else undef
  | 211 => if c = 3 then .string D else undef
  | 212 => if c = 3 then .bool true else undef
  | 213 => .bool (c == 3)
  | _ => undef
theorem BRow.other {W : World} {g : Nat} {l : List Nat} (h : BRow W g l) (x : Addr) (v : Value) (hne : g ≠ x.block) : BRow (W.setCell x v) g l := by
  obtain ⟨cs, t, fr, h, r⟩ := h
  refine ⟨cs, t, fr, ?_, r⟩
  simp [World.setCell, Array.getElem?_modify, Ne.symm hne, h]
/-- the memory behind the first Read -/
structure BkW (c o : Array Value) (X Y : ByteArray) (l : List Nat) (b g : Nat) (w W : World) : Prop where
  sb : SbW c o w W
  ob : Has W b #[.string X, .string Y] 27
  br : BRow W g l
theorem BkW.next {c o : Array Value} {X Y : ByteArray} {l : List Nat} {b g : Nat} {w W W' : World} (h : BkW c o X Y l b g w W) (hb : Below W.heap.size W W') : BkW c o X Y l b g w W' :=
  ⟨h.sb.next hb, h.ob.below hb h.ob.lt, h.br.below hb⟩
theorem BkW.alloc {c o : Array Value} {X Y : ByteArray} {l : List Nat} {b g : Nat} {w W : World} (h : BkW c o X Y l b g w W) (x : Obj) : BkW c o X Y l b g w (W.alloc x) := h.next ((Below.refl _ _).alloc (Nat.le_refl _) _)
theorem BkW.drew {c o : Array Value} {X Y : ByteArray} {l : List Nat} {b g : Nat} {w W : World} (h : BkW c o X Y l b g w W) : BkW c o X Y l b g w W.drew :=
  ⟨⟨h.sb.hs.drew, h.sb.ho.drew, h.sb.bl.drew⟩, h.ob.drew, h.br⟩
theorem BkW.put {c o : Array Value} {X Y : ByteArray} {l : List Nat} {b0 b g bb : Nat} {w W : World} (h : BkW c o X Y l b g w W) (h0 : b0 < b) (h1 : b < g) (h2 : g < bb) (h3 : w.heap.size + 1 < b0) (v0 v1 v2 v3 v4 : Value) : BkW c o X Y l b g w (((((W.setCell ⟨bb, 0, none⟩ v0).setCell ⟨bb, 1, none⟩ v1).setCell ⟨bb, 2, none⟩ v2).setCell ⟨bb, 3, none⟩ v3).setCell ⟨bb, 4, none⟩ v4) :=
  have hg : g ≠ bb := by omega
  ⟨h.sb.put (by omega) _ _ _ _ _, h.ob.put5 (by omega) _ _ _ _ _, ((((h.br.other _ _ hg).other _ _ hg).other _ _ hg).other _ _ hg).other _ _ hg⟩
/-- what the slots of the Read of fewer bytes hold -/
def bv (b : Nat) (X Y : ByteArray) (k : Nat) (S : Array Value) : Nat → Value
  | 148 => .pointer (some ⟨b, 0, none⟩)
  | 149 => .string X
  | 150 => .pointer (some ⟨b, 1, none⟩)
  | 151 => .string Y
  | 152 => .int .i64 (k : Int)
  | 153 => .string (Y.extract 0 k)
  | 154 => .agg #[.string X, .string (Y.extract 0 k)]
  | 155 => .tuple #[.agg S, .int .i64 4]
  | 147 => .tuple #[.agg S, .int .i64 4]
  | 156 => .agg S
  | 157 => .int .i64 4
  | _ => undef
def bF (b g : Nat) (X Y : ByteArray) (k : Nat) (S : Array Value) (d : Nat) (v : Value) (W : World) : Prop :=
  match d with
  | 21 => ∃ bb, v = .pointer (some ⟨bb, 0, none⟩) ∧ (∃ K0 N0 d0 i0 p0, Has W bb (shc K0 N0 d0 i0 p0) 25) ∧ g < bb
  | _ => v = bv b X Y k S d
theorem bF_mono (b g : Nat) (X Y : ByteArray) (k : Nat) (S : Array Value) (d : Nat) (v : Value) (w w' : World) (h : bF b g X Y k S d v w) (hb : Below w.heap.size w w') : bF b g X Y k S d v w' := by
  unfold bF at h ⊢
  split
  · obtain ⟨bb, h1, ⟨_, _, _, _, _, h2⟩, h3⟩ := h
    exact ⟨bb, h1, ⟨_, _, _, _, _, h2.below hb h2.lt⟩, h3⟩
  · rename_i hne
    split at h
    · exact absurd rfl hne
    · exact h
theorem one_str (y : Nat) : ∃ U : ByteArray, U.size = 1 ∧ ∀ w : World, (convert 43 9 (.slice (some ⟨w.heap.size, 0, none⟩) 1 1)).run Tryd.prog (w.alloc (.cells #[.int .u8 (y : Int)] 5)) = .ok (.string U) (w.alloc (.cells #[.int .u8 (y : Int)] 5)) :=
  ⟨ofBs [y], by rw [ofBs_size]; rfl, fun w => conv_str _ _ [y] 5 1 (Has.new _ _ _ _ rfl)⟩
theorem rn_store25 {ev : Operand → Value} {o : Oper} {W : World} {x y : Operand} (ho : o.op = .store 25 x y) {bb : Nat} {K N i K0 N0 i0 : Int} {d p d0 p0 : ByteArray}
    (hx : ev x = .pointer (some ⟨bb, 0, none⟩)) (hy : ev y = .agg (shc K N d i p)) (hb : Has W bb (shc K0 N0 d0 i0 p0) 25) :
    (execOp ev o).run Tryd.prog W = .ok .skip (((((W.setCell ⟨bb, 0, none⟩ (.int .i64 K)).setCell ⟨bb, 1, none⟩ (.int .i64 N)).setCell ⟨bb, 2, none⟩ (.string d)).setCell ⟨bb, 3, none⟩ (.int .i64 i)).setCell ⟨bb, 4, none⟩ (.string p)) := by
  obtain ⟨c0, c1, c2, c3, c4⟩ := shc_cells hb
  have f0 := hb.frozen 0
  have f1 := hb.frozen 1
  have f2 := hb.frozen 2
  have f3 := hb.frozen 3
  have f4 := hb.frozen 4
  unfold shc at hy
  simp [execOp, ho, hx, hy, go_sem, c0, c1, c2, c3, c4, f0, f1, f2, f3, f4]
theorem st_store25 {Q : Exit → Act → World → Prop} {ops : Array Oper} {C : World → Prop} {F : Nat → Value → World → Prop} {o : Oper} {a : Act} {W : World} {x y : Operand} (hd : o.dst = none) (hg : o.guard = none) (ho : o.op = .store 25 x y) {bb : Nat} {K N i K0 N0 i0 : Int} {d p d0 p0 : ByteArray}
    (hx : a.eval x = .pointer (some ⟨bb, 0, none⟩)) (hy : a.eval y = .agg (shc K N d i p)) (hb : Has W bb (shc K0 N0 d0 i0 p0) 25)
    (hC : C (((((W.setCell ⟨bb, 0, none⟩ (.int .i64 K)).setCell ⟨bb, 1, none⟩ (.int .i64 N)).setCell ⟨bb, 2, none⟩ (.string d)).setCell ⟨bb, 3, none⟩ (.int .i64 i)).setCell ⟨bb, 4, none⟩ (.string p)))
    (hF : ∀ s v, F s v W → F s v (((((W.setCell ⟨bb, 0, none⟩ (.int .i64 K)).setCell ⟨bb, 1, none⟩ (.int .i64 N)).setCell ⟨bb, 2, none⟩ (.string d)).setCell ⟨bb, 3, none⟩ (.int .i64 i)).setCell ⟨bb, 4, none⟩ (.string p))) :
    if Region.wanted o (yielded ops a.tmps) = true then o.wp Tryd.prog a W (fun a'' w'' => ∃ v, a'' = a.put o.dst v ∧ C w'' ∧ (∀ d v, F d v W → F d v w'') ∧ ∀ d, o.dst = some d → F d v w'') Q else ∀ d, o.dst = some d → F d undef W := by
  rw [if_pos (Tl.wanted_none hg)]
  unfold Oper.wp
  rw [rn_store25 ho hx hy hb]
  exact ⟨undef, rfl, hC, hF, fun _ h => by rw [hd] at h; cases h⟩
theorem bF_put {b g : Nat} {X Y : ByteArray} {k : Nat} {S : Array Value} {d : Nat} {v : Value} {W : World} {bb : Nat} {K0 N0 i0 : Int} {d0 p0 : ByteArray} (hb : Has W bb (shc K0 N0 d0 i0 p0) 25) (K N i : Int) (e p : ByteArray) (h : bF b g X Y k S d v W) :
    bF b g X Y k S d v (((((W.setCell ⟨bb, 0, none⟩ (.int .i64 K)).setCell ⟨bb, 1, none⟩ (.int .i64 N)).setCell ⟨bb, 2, none⟩ (.string e)).setCell ⟨bb, 3, none⟩ (.int .i64 i)).setCell ⟨bb, 4, none⟩ (.string p)) := by
  unfold bF at h ⊢
  split
  · obtain ⟨b', h1, ⟨K1, N1, d1, i1, p1, h2⟩, h3⟩ := h
    by_cases hbb : b' = bb
    · subst hbb
      exact ⟨b', h1, ⟨_, _, _, _, _, shc_put hb K N i e p⟩, h3⟩
    · exact ⟨b', h1, ⟨_, _, _, _, _, h2.put5 hbb _ _ _ _ _⟩, h3⟩
  · rename_i hne
    split at h
    · exact absurd rfl hne
    · exact h
set_option maxRecDepth 20000 in
set_option maxHeartbeats 4000000 in
theorem back_ok (K N : Int) (d : ByteArray) (i : Int) (p a t : ByteArray) (z y : Int) (X Y : ByteArray) (h1 : p.size ≤ 20000) (h2 : t.size ≤ 20000) (h3 : d.size ≤ 100) (h4 : a.size ≤ 300) (yn : Nat) (hyn : y = (yn : Int)) (hy2 : yn < 256) (hXs : X.size ≤ 1000) (hXY : rdOk X Y = true) (HS : Hid (∀ w, Lay w → Calls Tryd.prog 7 #[.agg (shc K N d i p)] w fun e w' => e = .returned (.tuple #[.agg #[.string X, .string Y], .int .i64 0]) ∧ Below w.heap.size w w')) (HX : Hid (∀ w, Lay w → Calls Tryd.prog 9 #[.agg #[.string X, .string Y]] w fun e w' => e = .returned (.tuple #[.agg (shc K N d i p), .int .i64 0]) ∧ Below w.heap.size w w')) (HP : Hid (∀ w, Lay w → Calls Tryd.prog 11 #[.string X] w fun e w' => e = .returned (.tuple #[.string d, .int .i64 i, .bool true]) ∧ Below w.heap.size w w')) (w : World) (hl : Lay w) :
    Calls Tryd.prog 5 #[.agg (shc K N d i p), obv a t, .int .i64 z, .int .u8 y] w fun e w' => e = .returned (.bool true) ∧ Below w.heap.size w w' := by
  subst hyn
  obtain ⟨hY75, hY7⟩ := (rd_same_len hXY).2
  obtain ⟨k, hk, hK⟩ := place z Y.size (by omega) (by omega)
  obtain ⟨K2, N2, d2, i2, p2, HR2⟩ := read_told X (ofBs ((bs Y).set k yn))
  obtain ⟨f, hf, hfc⟩ := bent_cases hXY k yn hk hy2
  rw [hf] at HR2
  obtain ⟨was, hwas⟩ : ∃ was, (bs Y).getD k 0 = was := ⟨_, rfl⟩
  rw [hwas] at hfc
  obtain ⟨en, hen⟩ : ∃ en : Nat, Y.size - 32 = en := ⟨_, rfl⟩
  rw [hen] at hfc
  have hen' : (Y.size : Int) - 32 = (en : Int) := by omega
  have hfc : Hid _ := hfc
  clear hf
  obtain ⟨K3, N3, d3, i3, p3, HR3⟩ := read_fails X (Y.extract 0 k) (rd_short hXY k hk)
  obtain ⟨U, hU, HU⟩ := one_str yn
  obtain ⟨K4, N4, d4, i4, p4, HR4⟩ := read_fails X (Y ++ U) (rd_long hXY U hU)
  obtain ⟨K5, N5, d5, i5, p5, HR5⟩ := read_fails (X ++ (⟨#[48]⟩ : ByteArray)) Y (rd_name hXY _ rfl)
  have qU : ¬ 9223372036854775807 < Y.size + U.size := by omega
  have qX : ¬ 9223372036854775807 < X.size + 1 := by omega
  have S0 := SbW.start w (shc K N d i p) #[.string a, .string t]
  have hfin := awake_any _ (hl.below S0.bl)
  obtain ⟨K', N', d', i', p', E', HR, hE'⟩ := back_read a t
  have q1 : ¬ (20000 : Int) < (p.size : Int) := by omega
  have q2 : ¬ (20000 : Int) < (t.size : Int) := by omega
  have q3 : ¬ (100 : Int) < (d.size : Int) := by omega
  have q4 : ¬ (300 : Int) < (a.size : Int) := by omega
  unfold shc obv
  unfold shc at hfin
  go_enter Tryd.func5, Tryd.ntmps5
  go_wp2_with fail
  refine hfin.mono ?_
  rintro e w1 ⟨rfl, b1⟩
  have S1 := S0.next b1
  clear b1 hfin S0
  have o0 := (obj_cells S1.ho).1
  have o1 := (obj_cells S1.ho).2.1
  go_wp2_with fail
  refine (HR.out _ (hl.below S1.bl)).mono ?_
  rintro e w2 ⟨rfl, b2⟩
  have S2 := S1.next b2
  clear b2 S1 HR o0 o1
  unfold shc
  have S3 := S2.alloc (.cells (shc K' N' d' i' p') 25)
  have T3 : Has (w2.alloc (.cells (shc K' N' d' i' p') 25)) w2.heap.size (shc K' N' d' i' p') 25 := Has.new _ _ _ _ rfl
  have hn2 : w.heap.size + 1 < w2.heap.size := S2.ho.lt
  rcases hE' with hE' | ⟨hE', HM⟩
  · subst hE'
    obtain ⟨c0, c1, c2, c3, c4⟩ := shc_cells S3.hs
    unfold shc at c0 c1 c2 c3 c4
    go_wp2_with fail
    refine (HS.out _ (hl.below S3.bl)).mono ?_
    rintro e w5 ⟨rfl, b5⟩
    have S5 := S3.next b5
    have T5 := T3.below b5 T3.lt
    clear b5 S3 T3 S2 c0 c1 c2 c3 c4 HS
    go_wp2_with fail
    have S6 := S5.alloc (.cells #[.string X, .string Y] 27)
    have T6 := T5.alloc (.cells #[.string X, .string Y] 27)
    have O6 : Has (w5.alloc (.cells #[.string X, .string Y] 27)) w5.heap.size #[.string X, .string Y] 27 := Has.new _ _ _ _ rfl
    have hn5 : w2.heap.size < w5.heap.size := T5.lt
    clear S5 T5
    refine (HX.out _ (hl.below S6.bl)).mono ?_
    rintro e w7 ⟨rfl, b7⟩
    have S7 := S6.next b7
    have T7 := T6.below b7 T6.lt
    have O7 := O6.below b7 O6.lt
    clear b7 S6 T6 O6 HX
    obtain ⟨c0, c1, c2, c3, c4⟩ := shc_cells T7
    have f0 := T7.frozen 0
    have f1 := T7.frozen 1
    have f2 := T7.frozen 2
    have f3 := T7.frozen 3
    have f4 := T7.frozen 4
    have o0 := (obj_cells O7).1
    have o1 := (obj_cells O7).2.1
    have hn6 : ¬ w5.heap.size = w2.heap.size := by omega
    have hn7 : ¬ w2.heap.size = w5.heap.size := by omega
    unfold shc
    go_wp2_with fail
    have T8 := shc_put T7 K N i d p
    have S8 : SbW (shc K N d i p) #[.string a, .string t] w _ := S7.put hn2 (.int .i64 K) (.int .i64 N) (.string d) (.int .i64 i) (.string p)
    have O8 := O7.put5 hn6 (.int .i64 K) (.int .i64 N) (.string d) (.int .i64 i) (.string p)
    clear S7 T7 O7 c0 c1 c2 c3 c4 f0 f1 f2 f3 f4 o0 o1 hn6 hn7
    refine (HP.out _ (hl.below S8.bl)).mono ?_
    rintro e w8 ⟨rfl, b8⟩
    have S9 := S8.next b8
    have T9 := T8.below b8 T8.lt
    have O9 := O8.below b8 O8.lt
    clear b8 S8 T8 O8 HP
    obtain ⟨c0, c1, c2, c3, c4⟩ := shc_cells T9
    obtain ⟨d0, d1, d2, d3, d4⟩ := shc_cells S9.hs
    have o0 := (obj_cells O9).1
    have o1 := (obj_cells O9).2.1
    obtain ⟨W9, cap, hcv, B9, b9, hcap⟩ := bytes_told w8 Y
    have SA := S9.next b9
    have OA := O9.below b9 O9.lt
    have n8 : w5.heap.size < w8.heap.size := O9.lt
    clear b9
    have p1 := (obj_cells OA).2.1
    have lz : (bs Y).length = Y.size := bs_length Y
    have cl := B9.cell k (by omega)
    have fr := B9.frozen k (by omega)
    have BB := B9.set k yn yn rfl (by omega)
    have HC := BB.conv Y.size cap (by rw [List.length_set]; omega)
    rw [List.take_of_length_le (by rw [List.length_set]; omega)] at HC
    have SB := SA.set9 (k := k) (v := .int .u8 (yn : Int)) (show w.heap.size + 1 < w8.heap.size by omega)
    have OB := OA.other ⟨w8.heap.size, k, none⟩ (.int .u8 (yn : Int)) (by show w5.heap.size ≠ w8.heap.size; omega)
    have q0 := (obj_cells OB).1
    have q1 := (obj_cells OB).2.1
    clear SA OA B9
    rw [hwas] at cl
    go_wp2_with fail
    rw [hK]
    refine (HR2.out _ (hl.below SB.bl)).mono ?_
    rintro e wA ⟨rfl, bA⟩
    have SC := SB.next bA
    have OC := OB.below bA OB.lt
    have BC := BB.below bA
    clear bA SB OB BB HC q0 q1 p1 cl fr hcv c0 c1 c2 c3 c4 d0 d1 d2 d3 d4 o0 o1 hK HR2 T9 S9 O9
    unfold shc
    go_wp2_with fail
    have Q0 : BkW (shc K N d i p) #[.string a, .string t] X Y ((bs Y).set k yn) w5.heap.size w8.heap.size w wA := ⟨SC, OC, BC⟩
    clear SC OC BC
    refine Tl.wp_mix_lit (by kernel_rfl) 13 [148, 149, 150, 151, 152, 153, 154, 155, 147, 156, 157, 21] 232 rfl (by kernel_rfl) (BkW (shc K N d i p) #[.string a, .string t] X Y ((bs Y).set k yn) w5.heap.size w8.heap.size w) (bF w5.heap.size w8.heap.size X Y k (shc K3 N3 d3 i3 p3)) Q0.drew
      ⟨Tl.StepP.mix (bF_mono _ _ _ _ _ _) fun a' W' hC hF => ?_, Tl.StepP.mix (bF_mono _ _ _ _ _ _) fun a' W' hC hF => ?_, Tl.StepP.mix (bF_mono _ _ _ _ _ _) fun a' W' hC hF => ?_, Tl.StepP.mix (bF_mono _ _ _ _ _ _) fun a' W' hC hF => ?_, Tl.StepP.mix (bF_mono _ _ _ _ _ _) fun a' W' hC hF => ?_, Tl.StepP.mix (bF_mono _ _ _ _ _ _) fun a' W' hC hF => ?_, Tl.StepP.mix (bF_mono _ _ _ _ _ _) fun a' W' hC hF => ?_, Tl.StepP.mix (bF_mono _ _ _ _ _ _) fun a' W' hC hF => ?_, Tl.StepP.mix (bF_mono _ _ _ _ _ _) fun a' W' hC hF => ?_, Tl.StepP.mix (bF_mono _ _ _ _ _ _) fun a' W' hC hF => ?_, Tl.StepP.mix (bF_mono _ _ _ _ _ _) fun a' W' hC hF => ?_, Tl.StepP.mix (bF_mono _ _ _ _ _ _) fun a' W' hC hF => ?_, fun a' W' hC hF => ?_, trivial⟩ ?_
    · exact Tl.st_v 148 _ rfl rfl hC rfl (rn_f27_0 rfl ((hF 13 (by decide +kernel)).2 (by decide)))
    · exact Tl.st_v 149 _ rfl rfl hC rfl (rn_load9 rfl ((hF 148 (by decide +kernel)).1 (by decide)) (obj_cells hC.ob).1)
    · exact Tl.st_v 150 _ rfl rfl hC rfl (rn_f27_1 rfl ((hF 13 (by decide +kernel)).2 (by decide)))
    · exact Tl.st_v 151 _ rfl rfl hC rfl (rn_load9 rfl ((hF 150 (by decide +kernel)).1 (by decide)) (obj_cells hC.ob).2.1)
    · exact Tl.st_v 152 _ rfl rfl hC rfl (rn_move rfl ((hF 18 (by decide +kernel)).2 (by decide)))
    · exact Tl.st_v 153 _ rfl rfl hC rfl (rn_slT rfl ((hF 151 (by decide +kernel)).1 (by decide)) ((hF 152 (by decide +kernel)).1 (by decide)) (Nat.le_of_lt hk))
    · exact Tl.st_v 154 _ rfl rfl hC rfl (rn_build27 rfl ((hF 149 (by decide +kernel)).1 (by decide)) ((hF 153 (by decide +kernel)).1 (by decide)))
    · refine Tl.st_call 155 9 _ rfl (Tl.wanted_none rfl) (rn_call1 rfl rfl ((hF 154 (by decide +kernel)).1 (by decide)) (enter9 _)) ((HR3.out W' (hl.below hC.sb.bl)).mono ?_)
      rintro e w'' ⟨rfl, b3⟩
      exact ⟨_, rfl, hC.next b3, b3, rfl⟩
    · exact Tl.st_v 147 _ rfl rfl hC rfl (rn_move rfl ((hF 155 (by decide +kernel)).1 (by decide)))
    · exact Tl.st_v 156 _ rfl rfl hC rfl (rn_ext0 rfl ((hF 147 (by decide +kernel)).1 (by decide)))
    · exact Tl.st_v 157 _ rfl rfl hC rfl (rn_ext1 rfl ((hF 147 (by decide +kernel)).1 (by decide)))
    · refine Tl.st_val 21 (.pointer (some ⟨W'.heap.size, 0, none⟩)) rfl (Tl.wanted_none rfl) (rn_alloc25 rfl) (hC.next ((Below.refl _ _).alloc (Nat.le_refl _) _)) ((Below.refl _ _).alloc (Nat.le_refl _) _) ?_
      exact ⟨W'.heap.size, rfl, ⟨_, _, _, _, _, Has.new _ _ _ _ rfl⟩, hC.br.lt⟩
    · obtain ⟨bb, e21, ⟨_, _, _, _, _, hb⟩, hlt⟩ : ∃ bb, a'.tmps.getD 21 undef = .pointer (some ⟨bb, 0, none⟩) ∧ (∃ K0 N0 d0 i0 p0, Has W' bb (shc K0 N0 d0 i0 p0) 25) ∧ w8.heap.size < bb := (hF 21 (by decide +kernel)).1 (by decide)
      exact st_store25 rfl rfl rfl e21 ((hF 156 (by decide +kernel)).1 (by decide)) hb (hC.put hn5 n8 hlt hn2 _ _ _ _ _) (fun _ _ h => bF_put hb _ _ _ _ _ h)
    intro v wB Q1 hv
    have v157 : v 157 = .int .i64 4 := hv 157 (by decide)
    obtain ⟨bb, v21, _⟩ : ∃ bb, v 21 = .pointer (some ⟨bb, 0, none⟩) ∧ (∃ K0 N0 d0 i0 p0, Has wB bb (shc K0 N0 d0 i0 p0) 25) ∧ w8.heap.size < bb := hv 21 (by decide)
    simp only [Tl.fill, v157, v21, List.drop_succ_cons, List.drop_zero]
    simp only [Act.put, List.setIfInBounds_toArray, List.set_cons_succ, List.set_cons_zero]
    clear hv v157 v21 Q0 HR3
    have o0 := fun o => (obj_cells (Q1.ob.alloc o)).1
    have o1 := fun o => (obj_cells (Q1.ob.alloc o)).2.1
    have o2 := (obj_cells Q1.ob).1
    have o3 := (obj_cells Q1.ob).2.1
    go_wp2_with fail
    refine (HR4.out _ (hl.below (Q1.alloc _).sb.bl)).mono ?_
    rintro e wC ⟨rfl, bC⟩
    have Q2 := (Q1.alloc _).next bC
    clear bC Q1 o0 o1 o2 o3 HR4 HU qU
    have o0 := fun o => (obj_cells (Q2.ob.alloc o)).1
    have o1 := fun o => (obj_cells (Q2.ob.alloc o)).2.1
    unfold shc
    go_wp2_with fail
    refine (HR5.out _ (hl.below (Q2.alloc _).sb.bl)).mono ?_
    rintro e wD ⟨rfl, bD⟩
    have Q3 := (Q2.alloc _).next bD
    clear bD Q2 o0 o1 HR5 qX
    have o0 := fun o => (obj_cells (Q3.ob.alloc o)).1
    have o1 := fun o => (obj_cells (Q3.ob.alloc o)).2.1
    unfold shc
    go_wp2_with fail
    try rw [hen']
    have Q4 := Q3.alloc (.cells (shc K5 N5 d5 i5 p5) 25)
    unfold shc at Q4
    clear Q3 o0 o1
    rcases hfc.out with ⟨hwy, hf0⟩ | ⟨hne0, hf0⟩ | ⟨hne0, hf0, hk4, hke, D, HD1, HD2⟩
    · subst hwy hf0
      refine Tl.wp_tail_lit (by kernel_rfl) 29 [185, 186, 187, 188, 189, 190, 191, 192, 193, 194, 195, 196, 197, 198, 199, 200, 201, 202, 203, 204, 205, 206, 207, 208, 209, 210, 211, 212, 213] 232 rfl (by kernel_rfl) (BkW (shc K N d i p) #[.string a, .string t] X Y ((bs Y).set k was) w5.heap.size w8.heap.size w) (fun s v _ => v = gv 1 w5.heap.size w8.heap.size Y.size cap k en was was Y (ofBs (((bs Y).set k was).take en)) ⟨#[]⟩ 0 s) (fun _ _ _ _ h _ => h) Q4.drew
        ⟨fun a' W' hC hF => ?_, fun a' W' hC hF => ?_, fun a' W' hC hF => ?_, fun a' W' hC hF => ?_, fun a' W' hC hF => ?_, fun a' W' hC hF => ?_, fun a' W' hC hF => ?_, fun a' W' hC hF => ?_, fun a' W' hC hF => ?_, fun a' W' hC hF => ?_, fun a' W' hC hF => ?_, fun a' W' hC hF => ?_, fun a' W' hC hF => ?_, fun a' W' hC hF => ?_, fun a' W' hC hF => ?_, fun a' W' hC hF => ?_, fun a' W' hC hF => ?_, fun a' W' hC hF => ?_, fun a' W' hC hF => ?_, fun a' W' hC hF => ?_, fun a' W' hC hF => ?_, fun a' W' hC hF => ?_, fun a' W' hC hF => ?_, fun a' W' hC hF => ?_, fun a' W' hC hF => ?_, fun a' W' hC hF => ?_, fun a' W' hC hF => ?_, fun a' W' hC hF => ?_, fun a' W' hC hF => ?_, trivial⟩ ?_
      · exact Tl.st_val 185 _ rfl (Tl.wanted_none rfl) (rn_move rfl ((hF 20 (by decide +kernel)).2 (by decide))) hC (Below.refl _ _) rfl
      · exact Tl.st_val 186 _ rfl (Tl.wanted_none rfl) (rn_move rfl ((hF 3 (by decide +kernel)).2 (by decide))) hC (Below.refl _ _) rfl
      · exact Tl.st_val 187 _ rfl (Tl.wanted_none rfl) (rn_neF rfl ((hF 185 (by decide +kernel)).1 (by decide)) ((hF 186 (by decide +kernel)).1 (by decide))) hC (Below.refl _ _) rfl
      · exact Tl.st_val 188 _ rfl (Tl.wanted_none rfl) (rn_move rfl ((hF 187 (by decide +kernel)).1 (by decide))) hC (Below.refl _ _) rfl
      · exact Tl.st_skip (Tl.wanted_not (g := 3) rfl rfl ((hF 188 (by decide +kernel)).1 (by decide))) (fun _ h => by cases h; rfl)
      · exact Tl.st_skip (Tl.wanted_not (g := 3) rfl rfl ((hF 188 (by decide +kernel)).1 (by decide))) (fun _ h => by cases h; rfl)
      · exact Tl.st_val 191 _ rfl (Tl.wanted_none rfl) (rn_pickF rfl ((hF 188 (by decide +kernel)).1 (by decide)) rfl) hC (Below.refl _ _) rfl
      · exact Tl.st_val 192 _ rfl (Tl.wanted_none rfl) (rn_move rfl ((hF 191 (by decide +kernel)).1 (by decide))) hC (Below.refl _ _) rfl
      · exact Tl.st_skip (Tl.wanted_not (g := 7) rfl rfl ((hF 192 (by decide +kernel)).1 (by decide))) (fun _ h => by cases h; rfl)
      · exact Tl.st_skip (Tl.wanted_not (g := 7) rfl rfl ((hF 192 (by decide +kernel)).1 (by decide))) (fun _ h => by cases h; rfl)
      · exact Tl.st_val 195 _ rfl (Tl.wanted_none rfl) (rn_pickF rfl ((hF 192 (by decide +kernel)).1 (by decide)) rfl) hC (Below.refl _ _) rfl
      · exact Tl.st_val 196 _ rfl (Tl.wanted_none rfl) (rn_move rfl ((hF 195 (by decide +kernel)).1 (by decide))) hC (Below.refl _ _) rfl
      · exact Tl.st_skip (Tl.wanted_not (g := 11) rfl rfl ((hF 196 (by decide +kernel)).1 (by decide))) (fun _ h => by cases h; rfl)
      · exact Tl.st_skip (Tl.wanted_not (g := 11) rfl rfl ((hF 196 (by decide +kernel)).1 (by decide))) (fun _ h => by cases h; rfl)
      · exact Tl.st_skip (Tl.wanted_not (g := 11) rfl rfl ((hF 196 (by decide +kernel)).1 (by decide))) (fun _ h => by cases h; rfl)
      · exact Tl.st_val 200 _ rfl (Tl.wanted_none rfl) (rn_pickF rfl ((hF 196 (by decide +kernel)).1 (by decide)) rfl) hC (Below.refl _ _) rfl
      · exact Tl.st_val 201 _ rfl (Tl.wanted_none rfl) (rn_move rfl ((hF 200 (by decide +kernel)).1 (by decide))) hC (Below.refl _ _) rfl
      · exact Tl.st_skip (Tl.wanted_not (g := 16) rfl rfl ((hF 201 (by decide +kernel)).1 (by decide))) (fun _ h => by cases h; rfl)
      · exact Tl.st_skip (Tl.wanted_not (g := 16) rfl rfl ((hF 201 (by decide +kernel)).1 (by decide))) (fun _ h => by cases h; rfl)
      · exact Tl.st_skip (Tl.wanted_not (g := 16) rfl rfl ((hF 201 (by decide +kernel)).1 (by decide))) (fun _ h => by cases h; rfl)
      · exact Tl.st_skip (Tl.wanted_not (g := 16) rfl rfl ((hF 201 (by decide +kernel)).1 (by decide))) (fun _ h => by cases h; rfl)
      · exact Tl.st_skip (Tl.wanted_not (g := 16) rfl rfl ((hF 201 (by decide +kernel)).1 (by decide))) (fun _ h => by cases h; rfl)
      · exact Tl.st_skip (Tl.wanted_not (g := 16) rfl rfl ((hF 201 (by decide +kernel)).1 (by decide))) (fun _ h => by cases h; rfl)
      · exact Tl.st_skip (Tl.wanted_not (g := 16) rfl rfl ((hF 201 (by decide +kernel)).1 (by decide))) (fun _ h => by cases h; rfl)
      · exact Tl.st_skip (Tl.wanted_not (g := 16) rfl rfl ((hF 201 (by decide +kernel)).1 (by decide))) (fun _ h => by cases h; rfl)
      · exact Tl.st_skip (Tl.wanted_not (g := 16) rfl rfl ((hF 201 (by decide +kernel)).1 (by decide))) (fun _ h => by cases h; rfl)
      · exact Tl.st_skip (Tl.wanted_not (g := 16) rfl rfl ((hF 201 (by decide +kernel)).1 (by decide))) (fun _ h => by cases h; rfl)
      · exact Tl.st_skip (Tl.wanted_not (g := 16) rfl rfl ((hF 201 (by decide +kernel)).1 (by decide))) (fun _ h => by cases h; rfl)
      · exact Tl.st_val 213 _ rfl (Tl.wanted_none rfl) (rn_pickF rfl ((hF 201 (by decide +kernel)).1 (by decide)) rfl) hC (Below.refl _ _) rfl
      intro v wE Q5 hv
      have v213 : v 213 = .bool false := hv 213 (by decide)
      simp only [Tl.fill, v213, List.drop_succ_cons, List.drop_zero, wpList]
      simp only [Act.put, List.setIfInBounds_toArray, List.set_cons_succ, List.set_cons_zero]
      clear hv v213 Q4
      go_wp2_with fail
      go_ret
      first | exact ⟨rfl, Q5.sb.bl⟩ | exact ⟨by show Ending.returned (.bool (!((was : Nat) : Int) == ((yn : Nat) : Int))) = _; rw [hnb]; rfl, Q5.sb.bl⟩
    · subst hf0
      have hne : ((was : Nat) : Int) ≠ ((yn : Nat) : Int) := by omega
      have hnb : (((was : Nat) : Int) == ((yn : Nat) : Int)) = false := by rw [beq_eq_false_iff_ne]; exact hne
      refine Tl.wp_tail_lit (by kernel_rfl) 29 [185, 186, 187, 188, 189, 190, 191, 192, 193, 194, 195, 196, 197, 198, 199, 200, 201, 202, 203, 204, 205, 206, 207, 208, 209, 210, 211, 212, 213] 232 rfl (by kernel_rfl) (BkW (shc K N d i p) #[.string a, .string t] X Y ((bs Y).set k yn) w5.heap.size w8.heap.size w) (fun s v _ => v = gv 2 w5.heap.size w8.heap.size Y.size cap k en was yn Y (ofBs (((bs Y).set k yn).take en)) ⟨#[]⟩ 4 s) (fun _ _ _ _ h _ => h) Q4.drew
        ⟨fun a' W' hC hF => ?_, fun a' W' hC hF => ?_, fun a' W' hC hF => ?_, fun a' W' hC hF => ?_, fun a' W' hC hF => ?_, fun a' W' hC hF => ?_, fun a' W' hC hF => ?_, fun a' W' hC hF => ?_, fun a' W' hC hF => ?_, fun a' W' hC hF => ?_, fun a' W' hC hF => ?_, fun a' W' hC hF => ?_, fun a' W' hC hF => ?_, fun a' W' hC hF => ?_, fun a' W' hC hF => ?_, fun a' W' hC hF => ?_, fun a' W' hC hF => ?_, fun a' W' hC hF => ?_, fun a' W' hC hF => ?_, fun a' W' hC hF => ?_, fun a' W' hC hF => ?_, fun a' W' hC hF => ?_, fun a' W' hC hF => ?_, fun a' W' hC hF => ?_, fun a' W' hC hF => ?_, fun a' W' hC hF => ?_, fun a' W' hC hF => ?_, fun a' W' hC hF => ?_, fun a' W' hC hF => ?_, trivial⟩ ?_
      · exact Tl.st_val 185 _ rfl (Tl.wanted_none rfl) (rn_move rfl ((hF 20 (by decide +kernel)).2 (by decide))) hC (Below.refl _ _) rfl
      · exact Tl.st_val 186 _ rfl (Tl.wanted_none rfl) (rn_move rfl ((hF 3 (by decide +kernel)).2 (by decide))) hC (Below.refl _ _) rfl
      · exact Tl.st_val 187 _ rfl (Tl.wanted_none rfl) (rn_neT rfl ((hF 185 (by decide +kernel)).1 (by decide)) ((hF 186 (by decide +kernel)).1 (by decide)) hne) hC (Below.refl _ _) rfl
      · exact Tl.st_val 188 _ rfl (Tl.wanted_none rfl) (rn_move rfl ((hF 187 (by decide +kernel)).1 (by decide))) hC (Below.refl _ _) rfl
      · exact Tl.st_val 189 _ rfl (Tl.wanted_is (g := 3) rfl rfl ((hF 188 (by decide +kernel)).1 (by decide))) (rn_move rfl ((hF 14 (by decide +kernel)).2 (by decide))) hC (Below.refl _ _) rfl
      · exact Tl.st_val 190 _ rfl (Tl.wanted_is (g := 3) rfl rfl ((hF 188 (by decide +kernel)).1 (by decide))) (rn_eq29F rfl ((hF 189 (by decide +kernel)).1 (by decide)) rfl (by decide)) hC (Below.refl _ _) rfl
      · exact Tl.st_val 191 _ rfl (Tl.wanted_none rfl) (rn_pickT rfl ((hF 188 (by decide +kernel)).1 (by decide)) ((hF 190 (by decide +kernel)).1 (by decide))) hC (Below.refl _ _) rfl
      · exact Tl.st_val 192 _ rfl (Tl.wanted_none rfl) (rn_move rfl ((hF 191 (by decide +kernel)).1 (by decide))) hC (Below.refl _ _) rfl
      · exact Tl.st_skip (Tl.wanted_not (g := 7) rfl rfl ((hF 192 (by decide +kernel)).1 (by decide))) (fun _ h => by cases h; rfl)
      · exact Tl.st_skip (Tl.wanted_not (g := 7) rfl rfl ((hF 192 (by decide +kernel)).1 (by decide))) (fun _ h => by cases h; rfl)
      · exact Tl.st_val 195 _ rfl (Tl.wanted_none rfl) (rn_pickF rfl ((hF 192 (by decide +kernel)).1 (by decide)) rfl) hC (Below.refl _ _) rfl
      · exact Tl.st_val 196 _ rfl (Tl.wanted_none rfl) (rn_move rfl ((hF 195 (by decide +kernel)).1 (by decide))) hC (Below.refl _ _) rfl
      · exact Tl.st_skip (Tl.wanted_not (g := 11) rfl rfl ((hF 196 (by decide +kernel)).1 (by decide))) (fun _ h => by cases h; rfl)
      · exact Tl.st_skip (Tl.wanted_not (g := 11) rfl rfl ((hF 196 (by decide +kernel)).1 (by decide))) (fun _ h => by cases h; rfl)
      · exact Tl.st_skip (Tl.wanted_not (g := 11) rfl rfl ((hF 196 (by decide +kernel)).1 (by decide))) (fun _ h => by cases h; rfl)
      · exact Tl.st_val 200 _ rfl (Tl.wanted_none rfl) (rn_pickF rfl ((hF 196 (by decide +kernel)).1 (by decide)) rfl) hC (Below.refl _ _) rfl
      · exact Tl.st_val 201 _ rfl (Tl.wanted_none rfl) (rn_move rfl ((hF 200 (by decide +kernel)).1 (by decide))) hC (Below.refl _ _) rfl
      · exact Tl.st_skip (Tl.wanted_not (g := 16) rfl rfl ((hF 201 (by decide +kernel)).1 (by decide))) (fun _ h => by cases h; rfl)
      · exact Tl.st_skip (Tl.wanted_not (g := 16) rfl rfl ((hF 201 (by decide +kernel)).1 (by decide))) (fun _ h => by cases h; rfl)
      · exact Tl.st_skip (Tl.wanted_not (g := 16) rfl rfl ((hF 201 (by decide +kernel)).1 (by decide))) (fun _ h => by cases h; rfl)
      · exact Tl.st_skip (Tl.wanted_not (g := 16) rfl rfl ((hF 201 (by decide +kernel)).1 (by decide))) (fun _ h => by cases h; rfl)
      · exact Tl.st_skip (Tl.wanted_not (g := 16) rfl rfl ((hF 201 (by decide +kernel)).1 (by decide))) (fun _ h => by cases h; rfl)
      · exact Tl.st_skip (Tl.wanted_not (g := 16) rfl rfl ((hF 201 (by decide +kernel)).1 (by decide))) (fun _ h => by cases h; rfl)
      · exact Tl.st_skip (Tl.wanted_not (g := 16) rfl rfl ((hF 201 (by decide +kernel)).1 (by decide))) (fun _ h => by cases h; rfl)
      · exact Tl.st_skip (Tl.wanted_not (g := 16) rfl rfl ((hF 201 (by decide +kernel)).1 (by decide))) (fun _ h => by cases h; rfl)
      · exact Tl.st_skip (Tl.wanted_not (g := 16) rfl rfl ((hF 201 (by decide +kernel)).1 (by decide))) (fun _ h => by cases h; rfl)
      · exact Tl.st_skip (Tl.wanted_not (g := 16) rfl rfl ((hF 201 (by decide +kernel)).1 (by decide))) (fun _ h => by cases h; rfl)
      · exact Tl.st_skip (Tl.wanted_not (g := 16) rfl rfl ((hF 201 (by decide +kernel)).1 (by decide))) (fun _ h => by cases h; rfl)
      · exact Tl.st_val 213 _ rfl (Tl.wanted_none rfl) (rn_pickF rfl ((hF 201 (by decide +kernel)).1 (by decide)) rfl) hC (Below.refl _ _) rfl
      intro v wE Q5 hv
      have v213 : v 213 = .bool false := hv 213 (by decide)
      simp only [Tl.fill, v213, List.drop_succ_cons, List.drop_zero, wpList]
      simp only [Act.put, List.setIfInBounds_toArray, List.set_cons_succ, List.set_cons_zero]
      clear hv v213 Q4
      go_wp2_with fail
      go_ret
      first | exact ⟨rfl, Q5.sb.bl⟩ | exact ⟨by show Ending.returned (.bool (!((was : Nat) : Int) == ((yn : Nat) : Int))) = _; rw [hnb]; rfl, Q5.sb.bl⟩
    · subst hf0
      have hne : ((was : Nat) : Int) ≠ ((yn : Nat) : Int) := by omega
      have hnb : (((was : Nat) : Int) == ((yn : Nat) : Int)) = false := by rw [beq_eq_false_iff_ne]; exact hne
      refine Tl.wp_tail_lit (by kernel_rfl) 29 [185, 186, 187, 188, 189, 190, 191, 192, 193, 194, 195, 196, 197, 198, 199, 200, 201, 202, 203, 204, 205, 206, 207, 208, 209, 210, 211, 212, 213] 232 rfl (by kernel_rfl) (BkW (shc K N d i p) #[.string a, .string t] X Y ((bs Y).set k yn) w5.heap.size w8.heap.size w) (fun s v _ => v = gv 3 w5.heap.size w8.heap.size Y.size cap k en was yn Y (ofBs (((bs Y).set k yn).take en)) D 0 s) (fun _ _ _ _ h _ => h) Q4.drew
        ⟨fun a' W' hC hF => ?_, fun a' W' hC hF => ?_, fun a' W' hC hF => ?_, fun a' W' hC hF => ?_, fun a' W' hC hF => ?_, fun a' W' hC hF => ?_, fun a' W' hC hF => ?_, fun a' W' hC hF => ?_, fun a' W' hC hF => ?_, fun a' W' hC hF => ?_, fun a' W' hC hF => ?_, fun a' W' hC hF => ?_, fun a' W' hC hF => ?_, fun a' W' hC hF => ?_, fun a' W' hC hF => ?_, fun a' W' hC hF => ?_, fun a' W' hC hF => ?_, fun a' W' hC hF => ?_, fun a' W' hC hF => ?_, fun a' W' hC hF => ?_, fun a' W' hC hF => ?_, fun a' W' hC hF => ?_, fun a' W' hC hF => ?_, fun a' W' hC hF => ?_, fun a' W' hC hF => ?_, fun a' W' hC hF => ?_, fun a' W' hC hF => ?_, fun a' W' hC hF => ?_, fun a' W' hC hF => ?_, trivial⟩ ?_
      · exact Tl.st_val 185 _ rfl (Tl.wanted_none rfl) (rn_move rfl ((hF 20 (by decide +kernel)).2 (by decide))) hC (Below.refl _ _) rfl
      · exact Tl.st_val 186 _ rfl (Tl.wanted_none rfl) (rn_move rfl ((hF 3 (by decide +kernel)).2 (by decide))) hC (Below.refl _ _) rfl
      · exact Tl.st_val 187 _ rfl (Tl.wanted_none rfl) (rn_neT rfl ((hF 185 (by decide +kernel)).1 (by decide)) ((hF 186 (by decide +kernel)).1 (by decide)) hne) hC (Below.refl _ _) rfl
      · exact Tl.st_val 188 _ rfl (Tl.wanted_none rfl) (rn_move rfl ((hF 187 (by decide +kernel)).1 (by decide))) hC (Below.refl _ _) rfl
      · exact Tl.st_val 189 _ rfl (Tl.wanted_is (g := 3) rfl rfl ((hF 188 (by decide +kernel)).1 (by decide))) (rn_move rfl ((hF 14 (by decide +kernel)).2 (by decide))) hC (Below.refl _ _) rfl
      · exact Tl.st_val 190 _ rfl (Tl.wanted_is (g := 3) rfl rfl ((hF 188 (by decide +kernel)).1 (by decide))) (rn_eq29T rfl ((hF 189 (by decide +kernel)).1 (by decide)) rfl) hC (Below.refl _ _) rfl
      · exact Tl.st_val 191 _ rfl (Tl.wanted_none rfl) (rn_pickT rfl ((hF 188 (by decide +kernel)).1 (by decide)) ((hF 190 (by decide +kernel)).1 (by decide))) hC (Below.refl _ _) rfl
      · exact Tl.st_val 192 _ rfl (Tl.wanted_none rfl) (rn_move rfl ((hF 191 (by decide +kernel)).1 (by decide))) hC (Below.refl _ _) rfl
      · exact Tl.st_val 193 _ rfl (Tl.wanted_is (g := 7) rfl rfl ((hF 192 (by decide +kernel)).1 (by decide))) (rn_move rfl ((hF 18 (by decide +kernel)).2 (by decide))) hC (Below.refl _ _) rfl
      · exact Tl.st_val 194 _ rfl (Tl.wanted_is (g := 7) rfl rfl ((hF 192 (by decide +kernel)).1 (by decide))) (rn_geT rfl ((hF 193 (by decide +kernel)).1 (by decide)) rfl (by omega)) hC (Below.refl _ _) rfl
      · exact Tl.st_val 195 _ rfl (Tl.wanted_none rfl) (rn_pickT rfl ((hF 192 (by decide +kernel)).1 (by decide)) ((hF 194 (by decide +kernel)).1 (by decide))) hC (Below.refl _ _) rfl
      · exact Tl.st_val 196 _ rfl (Tl.wanted_none rfl) (rn_move rfl ((hF 195 (by decide +kernel)).1 (by decide))) hC (Below.refl _ _) rfl
      · exact Tl.st_val 197 _ rfl (Tl.wanted_is (g := 11) rfl rfl ((hF 196 (by decide +kernel)).1 (by decide))) (rn_move rfl ((hF 18 (by decide +kernel)).2 (by decide))) hC (Below.refl _ _) rfl
      · exact Tl.st_val 198 _ rfl (Tl.wanted_is (g := 11) rfl rfl ((hF 196 (by decide +kernel)).1 (by decide))) (rn_move rfl ((hF 27 (by decide +kernel)).2 (by decide))) hC (Below.refl _ _) rfl
      · exact Tl.st_val 199 _ rfl (Tl.wanted_is (g := 11) rfl rfl ((hF 196 (by decide +kernel)).1 (by decide))) (rn_ltT rfl ((hF 197 (by decide +kernel)).1 (by decide)) ((hF 198 (by decide +kernel)).1 (by decide)) (by omega)) hC (Below.refl _ _) rfl
      · exact Tl.st_val 200 _ rfl (Tl.wanted_none rfl) (rn_pickT rfl ((hF 196 (by decide +kernel)).1 (by decide)) ((hF 199 (by decide +kernel)).1 (by decide))) hC (Below.refl _ _) rfl
      · exact Tl.st_val 201 _ rfl (Tl.wanted_none rfl) (rn_move rfl ((hF 200 (by decide +kernel)).1 (by decide))) hC (Below.refl _ _) rfl
      · exact Tl.st_val 202 _ rfl (Tl.wanted_is (g := 16) rfl rfl ((hF 201 (by decide +kernel)).1 (by decide))) (rn_f27_1 rfl ((hF 13 (by decide +kernel)).2 (by decide))) hC (Below.refl _ _) rfl
      · exact Tl.st_val 203 _ rfl (Tl.wanted_is (g := 16) rfl rfl ((hF 201 (by decide +kernel)).1 (by decide))) (rn_load9 rfl ((hF 202 (by decide +kernel)).1 (by decide)) (obj_cells hC.ob).2.1) hC (Below.refl _ _) rfl
      · exact Tl.st_val 204 _ rfl (Tl.wanted_is (g := 16) rfl rfl ((hF 201 (by decide +kernel)).1 (by decide))) (rn_move rfl ((hF 27 (by decide +kernel)).2 (by decide))) hC (Below.refl _ _) rfl
      · exact Tl.st_val 205 _ rfl (Tl.wanted_is (g := 16) rfl rfl ((hF 201 (by decide +kernel)).1 (by decide))) (rn_slT rfl ((hF 203 (by decide +kernel)).1 (by decide)) ((hF 204 (by decide +kernel)).1 (by decide)) (by omega)) hC (Below.refl _ _) rfl
      · exact Tl.st_call 206 17 _ rfl (Tl.wanted_is (g := 16) rfl rfl ((hF 201 (by decide +kernel)).1 (by decide))) (rn_call1 rfl rfl ((hF 205 (by decide +kernel)).1 (by decide)) (enter17 _)) ((HD1.out W' (hl.below hC.sb.bl)).mono fun e w'' h => ⟨_, h.1, hC.next h.2, h.2, rfl⟩)
      · exact Tl.st_val 207 _ rfl (Tl.wanted_is (g := 16) rfl rfl ((hF 201 (by decide +kernel)).1 (by decide))) (rn_move rfl ((hF 19 (by decide +kernel)).2 (by decide))) hC (Below.refl _ _) rfl
      · exact Tl.st_val 208 _ rfl (Tl.wanted_is (g := 16) rfl rfl ((hF 201 (by decide +kernel)).1 (by decide))) (rn_move rfl ((hF 27 (by decide +kernel)).2 (by decide))) hC (Below.refl _ _) rfl
      · exact Tl.st_val 209 _ rfl (Tl.wanted_is (g := 16) rfl rfl ((hF 201 (by decide +kernel)).1 (by decide))) (rn_sl43 rfl ((hF 207 (by decide +kernel)).1 (by decide)) ((hF 208 (by decide +kernel)).1 (by decide)) (by omega)) hC (Below.refl _ _) rfl
      · exact Tl.st_val 210 _ rfl (Tl.wanted_is (g := 16) rfl rfl ((hF 201 (by decide +kernel)).1 (by decide))) (rn_conv43 rfl ((hF 209 (by decide +kernel)).1 (by decide)) (hC.br.conv en cap (by rw [List.length_set]; omega))) hC (Below.refl _ _) rfl
      · exact Tl.st_call 211 17 _ rfl (Tl.wanted_is (g := 16) rfl rfl ((hF 201 (by decide +kernel)).1 (by decide))) (rn_call1 rfl rfl ((hF 210 (by decide +kernel)).1 (by decide)) (enter17 _)) ((HD2.out W' (hl.below hC.sb.bl)).mono fun e w'' h => ⟨_, h.1, hC.next h.2, h.2, rfl⟩)
      · exact Tl.st_val 212 _ rfl (Tl.wanted_is (g := 16) rfl rfl ((hF 201 (by decide +kernel)).1 (by decide))) (rn_eq9T rfl ((hF 206 (by decide +kernel)).1 (by decide)) ((hF 211 (by decide +kernel)).1 (by decide))) hC (Below.refl _ _) rfl
      · exact Tl.st_val 213 _ rfl (Tl.wanted_none rfl) (rn_pickT rfl ((hF 201 (by decide +kernel)).1 (by decide)) ((hF 212 (by decide +kernel)).1 (by decide))) hC (Below.refl _ _) rfl
      intro v wE Q5 hv
      have v213 : v 213 = .bool true := hv 213 (by decide)
      simp only [Tl.fill, v213, List.drop_succ_cons, List.drop_zero, wpList]
      simp only [Act.put, List.setIfInBounds_toArray, List.set_cons_succ, List.set_cons_zero]
      clear hv v213 Q4
      go_wp2_with fail
      go_ret
      first | exact ⟨rfl, Q5.sb.bl⟩ | exact ⟨by show Ending.returned (.bool (!((was : Nat) : Int) == ((yn : Nat) : Int))) = _; rw [hnb]; rfl, Q5.sb.bl⟩
  · subst hE'
    go_wp2_with fail
    refine (HM.out _ (hl.below S3.bl)).mono ?_
    rintro e w3 ⟨rfl, b3⟩
    have S4 := (S3.next b3).alloc (.cells #[.string a, .string t] 27)
    have T4 := (T3.below b3 T3.lt).alloc (.cells #[.string a, .string t] 27)
    clear b3 S3 T3 S2 HM
    have o0 := (obj_cells S4.ho).1
    have o1 := (obj_cells S4.ho).2.1
    obtain ⟨c0, c1, c2, c3, c4⟩ := shc_cells S4.hs
    go_wp2_with fail
    refine (HS.out _ (hl.below S4.bl)).mono ?_
    rintro e w5 ⟨rfl, b5⟩
    have S5 := S4.next b5
    have T5 := T4.below b5 T4.lt
    clear b5 S4 T4 c0 c1 c2 c3 c4 o0 o1 HS
    go_wp2_with fail
    have S6 := S5.alloc (.cells #[.string X, .string Y] 27)
    have T6 := T5.alloc (.cells #[.string X, .string Y] 27)
    have O6 : Has (w5.alloc (.cells #[.string X, .string Y] 27)) w5.heap.size #[.string X, .string Y] 27 := Has.new _ _ _ _ rfl
    have hn5 : w2.heap.size < w5.heap.size := T5.lt
    clear S5 T5
    refine (HX.out _ (hl.below S6.bl)).mono ?_
    rintro e w7 ⟨rfl, b7⟩
    have S7 := S6.next b7
    have T7 := T6.below b7 T6.lt
    have O7 := O6.below b7 O6.lt
    clear b7 S6 T6 O6 HX
    obtain ⟨c0, c1, c2, c3, c4⟩ := shc_cells T7
    have f0 := T7.frozen 0
    have f1 := T7.frozen 1
    have f2 := T7.frozen 2
    have f3 := T7.frozen 3
    have f4 := T7.frozen 4
    have o0 := (obj_cells O7).1
    have o1 := (obj_cells O7).2.1
    have hn6 : ¬ w5.heap.size = w2.heap.size := by omega
    have hn7 : ¬ w2.heap.size = w5.heap.size := by omega
    unfold shc
    go_wp2_with fail
    have T8 := shc_put T7 K N i d p
    have S8 : SbW (shc K N d i p) #[.string a, .string t] w _ := S7.put hn2 (.int .i64 K) (.int .i64 N) (.string d) (.int .i64 i) (.string p)
    have O8 := O7.put5 hn6 (.int .i64 K) (.int .i64 N) (.string d) (.int .i64 i) (.string p)
    clear S7 T7 O7 c0 c1 c2 c3 c4 f0 f1 f2 f3 f4 o0 o1 hn6 hn7
    refine (HP.out _ (hl.below S8.bl)).mono ?_
    rintro e w8 ⟨rfl, b8⟩
    have S9 := S8.next b8
    have T9 := T8.below b8 T8.lt
    have O9 := O8.below b8 O8.lt
    clear b8 S8 T8 O8 HP
    obtain ⟨c0, c1, c2, c3, c4⟩ := shc_cells T9
    obtain ⟨d0, d1, d2, d3, d4⟩ := shc_cells S9.hs
    have o0 := (obj_cells O9).1
    have o1 := (obj_cells O9).2.1
    obtain ⟨W9, cap, hcv, B9, b9, hcap⟩ := bytes_told w8 Y
    have SA := S9.next b9
    have OA := O9.below b9 O9.lt
    have n8 : w5.heap.size < w8.heap.size := O9.lt
    clear b9
    have p1 := (obj_cells OA).2.1
    have lz : (bs Y).length = Y.size := bs_length Y
    have cl := B9.cell k (by omega)
    have fr := B9.frozen k (by omega)
    have BB := B9.set k yn yn rfl (by omega)
    have HC := BB.conv Y.size cap (by rw [List.length_set]; omega)
    rw [List.take_of_length_le (by rw [List.length_set]; omega)] at HC
    have SB := SA.set9 (k := k) (v := .int .u8 (yn : Int)) (show w.heap.size + 1 < w8.heap.size by omega)
    have OB := OA.other ⟨w8.heap.size, k, none⟩ (.int .u8 (yn : Int)) (by show w5.heap.size ≠ w8.heap.size; omega)
    have q0 := (obj_cells OB).1
    have q1 := (obj_cells OB).2.1
    clear SA OA B9
    rw [hwas] at cl
    go_wp2_with fail
    rw [hK]
    refine (HR2.out _ (hl.below SB.bl)).mono ?_
    rintro e wA ⟨rfl, bA⟩
    have SC := SB.next bA
    have OC := OB.below bA OB.lt
    have BC := BB.below bA
    clear bA SB OB BB HC q0 q1 p1 cl fr hcv c0 c1 c2 c3 c4 d0 d1 d2 d3 d4 o0 o1 hK HR2 T9 S9 O9
    unfold shc
    go_wp2_with fail
    have Q0 : BkW (shc K N d i p) #[.string a, .string t] X Y ((bs Y).set k yn) w5.heap.size w8.heap.size w wA := ⟨SC, OC, BC⟩
    clear SC OC BC
    refine Tl.wp_mix_lit (by kernel_rfl) 13 [148, 149, 150, 151, 152, 153, 154, 155, 147, 156, 157, 21] 232 rfl (by kernel_rfl) (BkW (shc K N d i p) #[.string a, .string t] X Y ((bs Y).set k yn) w5.heap.size w8.heap.size w) (bF w5.heap.size w8.heap.size X Y k (shc K3 N3 d3 i3 p3)) Q0.drew
      ⟨Tl.StepP.mix (bF_mono _ _ _ _ _ _) fun a' W' hC hF => ?_, Tl.StepP.mix (bF_mono _ _ _ _ _ _) fun a' W' hC hF => ?_, Tl.StepP.mix (bF_mono _ _ _ _ _ _) fun a' W' hC hF => ?_, Tl.StepP.mix (bF_mono _ _ _ _ _ _) fun a' W' hC hF => ?_, Tl.StepP.mix (bF_mono _ _ _ _ _ _) fun a' W' hC hF => ?_, Tl.StepP.mix (bF_mono _ _ _ _ _ _) fun a' W' hC hF => ?_, Tl.StepP.mix (bF_mono _ _ _ _ _ _) fun a' W' hC hF => ?_, Tl.StepP.mix (bF_mono _ _ _ _ _ _) fun a' W' hC hF => ?_, Tl.StepP.mix (bF_mono _ _ _ _ _ _) fun a' W' hC hF => ?_, Tl.StepP.mix (bF_mono _ _ _ _ _ _) fun a' W' hC hF => ?_, Tl.StepP.mix (bF_mono _ _ _ _ _ _) fun a' W' hC hF => ?_, Tl.StepP.mix (bF_mono _ _ _ _ _ _) fun a' W' hC hF => ?_, fun a' W' hC hF => ?_, trivial⟩ ?_
    · exact Tl.st_v 148 _ rfl rfl hC rfl (rn_f27_0 rfl ((hF 13 (by decide +kernel)).2 (by decide)))
    · exact Tl.st_v 149 _ rfl rfl hC rfl (rn_load9 rfl ((hF 148 (by decide +kernel)).1 (by decide)) (obj_cells hC.ob).1)
    · exact Tl.st_v 150 _ rfl rfl hC rfl (rn_f27_1 rfl ((hF 13 (by decide +kernel)).2 (by decide)))
    · exact Tl.st_v 151 _ rfl rfl hC rfl (rn_load9 rfl ((hF 150 (by decide +kernel)).1 (by decide)) (obj_cells hC.ob).2.1)
    · exact Tl.st_v 152 _ rfl rfl hC rfl (rn_move rfl ((hF 18 (by decide +kernel)).2 (by decide)))
    · exact Tl.st_v 153 _ rfl rfl hC rfl (rn_slT rfl ((hF 151 (by decide +kernel)).1 (by decide)) ((hF 152 (by decide +kernel)).1 (by decide)) (Nat.le_of_lt hk))
    · exact Tl.st_v 154 _ rfl rfl hC rfl (rn_build27 rfl ((hF 149 (by decide +kernel)).1 (by decide)) ((hF 153 (by decide +kernel)).1 (by decide)))
    · refine Tl.st_call 155 9 _ rfl (Tl.wanted_none rfl) (rn_call1 rfl rfl ((hF 154 (by decide +kernel)).1 (by decide)) (enter9 _)) ((HR3.out W' (hl.below hC.sb.bl)).mono ?_)
      rintro e w'' ⟨rfl, b3⟩
      exact ⟨_, rfl, hC.next b3, b3, rfl⟩
    · exact Tl.st_v 147 _ rfl rfl hC rfl (rn_move rfl ((hF 155 (by decide +kernel)).1 (by decide)))
    · exact Tl.st_v 156 _ rfl rfl hC rfl (rn_ext0 rfl ((hF 147 (by decide +kernel)).1 (by decide)))
    · exact Tl.st_v 157 _ rfl rfl hC rfl (rn_ext1 rfl ((hF 147 (by decide +kernel)).1 (by decide)))
    · refine Tl.st_val 21 (.pointer (some ⟨W'.heap.size, 0, none⟩)) rfl (Tl.wanted_none rfl) (rn_alloc25 rfl) (hC.next ((Below.refl _ _).alloc (Nat.le_refl _) _)) ((Below.refl _ _).alloc (Nat.le_refl _) _) ?_
      exact ⟨W'.heap.size, rfl, ⟨_, _, _, _, _, Has.new _ _ _ _ rfl⟩, hC.br.lt⟩
    · obtain ⟨bb, e21, ⟨_, _, _, _, _, hb⟩, hlt⟩ : ∃ bb, a'.tmps.getD 21 undef = .pointer (some ⟨bb, 0, none⟩) ∧ (∃ K0 N0 d0 i0 p0, Has W' bb (shc K0 N0 d0 i0 p0) 25) ∧ w8.heap.size < bb := (hF 21 (by decide +kernel)).1 (by decide)
      exact st_store25 rfl rfl rfl e21 ((hF 156 (by decide +kernel)).1 (by decide)) hb (hC.put hn5 n8 hlt hn2 _ _ _ _ _) (fun _ _ h => bF_put hb _ _ _ _ _ h)
    intro v wB Q1 hv
    have v157 : v 157 = .int .i64 4 := hv 157 (by decide)
    obtain ⟨bb, v21, _⟩ : ∃ bb, v 21 = .pointer (some ⟨bb, 0, none⟩) ∧ (∃ K0 N0 d0 i0 p0, Has wB bb (shc K0 N0 d0 i0 p0) 25) ∧ w8.heap.size < bb := hv 21 (by decide)
    simp only [Tl.fill, v157, v21, List.drop_succ_cons, List.drop_zero]
    simp only [Act.put, List.setIfInBounds_toArray, List.set_cons_succ, List.set_cons_zero]
    clear hv v157 v21 Q0 HR3
    have o0 := fun o => (obj_cells (Q1.ob.alloc o)).1
    have o1 := fun o => (obj_cells (Q1.ob.alloc o)).2.1
    have o2 := (obj_cells Q1.ob).1
    have o3 := (obj_cells Q1.ob).2.1
    go_wp2_with fail
    refine (HR4.out _ (hl.below (Q1.alloc _).sb.bl)).mono ?_
    rintro e wC ⟨rfl, bC⟩
    have Q2 := (Q1.alloc _).next bC
    clear bC Q1 o0 o1 o2 o3 HR4 HU qU
    have o0 := fun o => (obj_cells (Q2.ob.alloc o)).1
    have o1 := fun o => (obj_cells (Q2.ob.alloc o)).2.1
    unfold shc
    go_wp2_with fail
    refine (HR5.out _ (hl.below (Q2.alloc _).sb.bl)).mono ?_
    rintro e wD ⟨rfl, bD⟩
    have Q3 := (Q2.alloc _).next bD
    clear bD Q2 o0 o1 HR5 qX
    have o0 := fun o => (obj_cells (Q3.ob.alloc o)).1
    have o1 := fun o => (obj_cells (Q3.ob.alloc o)).2.1
    unfold shc
    go_wp2_with fail
    try rw [hen']
    have Q4 := Q3.alloc (.cells (shc K5 N5 d5 i5 p5) 25)
    unfold shc at Q4
    clear Q3 o0 o1
    rcases hfc.out with ⟨hwy, hf0⟩ | ⟨hne0, hf0⟩ | ⟨hne0, hf0, hk4, hke, D, HD1, HD2⟩
    · subst hwy hf0
      refine Tl.wp_tail_lit (by kernel_rfl) 29 [185, 186, 187, 188, 189, 190, 191, 192, 193, 194, 195, 196, 197, 198, 199, 200, 201, 202, 203, 204, 205, 206, 207, 208, 209, 210, 211, 212, 213] 232 rfl (by kernel_rfl) (BkW (shc K N d i p) #[.string a, .string t] X Y ((bs Y).set k was) w5.heap.size w8.heap.size w) (fun s v _ => v = gv 1 w5.heap.size w8.heap.size Y.size cap k en was was Y (ofBs (((bs Y).set k was).take en)) ⟨#[]⟩ 0 s) (fun _ _ _ _ h _ => h) Q4.drew
        ⟨fun a' W' hC hF => ?_, fun a' W' hC hF => ?_, fun a' W' hC hF => ?_, fun a' W' hC hF => ?_, fun a' W' hC hF => ?_, fun a' W' hC hF => ?_, fun a' W' hC hF => ?_, fun a' W' hC hF => ?_, fun a' W' hC hF => ?_, fun a' W' hC hF => ?_, fun a' W' hC hF => ?_, fun a' W' hC hF => ?_, fun a' W' hC hF => ?_, fun a' W' hC hF => ?_, fun a' W' hC hF => ?_, fun a' W' hC hF => ?_, fun a' W' hC hF => ?_, fun a' W' hC hF => ?_, fun a' W' hC hF => ?_, fun a' W' hC hF => ?_, fun a' W' hC hF => ?_, fun a' W' hC hF => ?_, fun a' W' hC hF => ?_, fun a' W' hC hF => ?_, fun a' W' hC hF => ?_, fun a' W' hC hF => ?_, fun a' W' hC hF => ?_, fun a' W' hC hF => ?_, fun a' W' hC hF => ?_, trivial⟩ ?_
      · exact Tl.st_val 185 _ rfl (Tl.wanted_none rfl) (rn_move rfl ((hF 20 (by decide +kernel)).2 (by decide))) hC (Below.refl _ _) rfl
      · exact Tl.st_val 186 _ rfl (Tl.wanted_none rfl) (rn_move rfl ((hF 3 (by decide +kernel)).2 (by decide))) hC (Below.refl _ _) rfl
      · exact Tl.st_val 187 _ rfl (Tl.wanted_none rfl) (rn_neF rfl ((hF 185 (by decide +kernel)).1 (by decide)) ((hF 186 (by decide +kernel)).1 (by decide))) hC (Below.refl _ _) rfl
      · exact Tl.st_val 188 _ rfl (Tl.wanted_none rfl) (rn_move rfl ((hF 187 (by decide +kernel)).1 (by decide))) hC (Below.refl _ _) rfl
      · exact Tl.st_skip (Tl.wanted_not (g := 3) rfl rfl ((hF 188 (by decide +kernel)).1 (by decide))) (fun _ h => by cases h; rfl)
      · exact Tl.st_skip (Tl.wanted_not (g := 3) rfl rfl ((hF 188 (by decide +kernel)).1 (by decide))) (fun _ h => by cases h; rfl)
      · exact Tl.st_val 191 _ rfl (Tl.wanted_none rfl) (rn_pickF rfl ((hF 188 (by decide +kernel)).1 (by decide)) rfl) hC (Below.refl _ _) rfl
      · exact Tl.st_val 192 _ rfl (Tl.wanted_none rfl) (rn_move rfl ((hF 191 (by decide +kernel)).1 (by decide))) hC (Below.refl _ _) rfl
      · exact Tl.st_skip (Tl.wanted_not (g := 7) rfl rfl ((hF 192 (by decide +kernel)).1 (by decide))) (fun _ h => by cases h; rfl)
      · exact Tl.st_skip (Tl.wanted_not (g := 7) rfl rfl ((hF 192 (by decide +kernel)).1 (by decide))) (fun _ h => by cases h; rfl)
      · exact Tl.st_val 195 _ rfl (Tl.wanted_none rfl) (rn_pickF rfl ((hF 192 (by decide +kernel)).1 (by decide)) rfl) hC (Below.refl _ _) rfl
      · exact Tl.st_val 196 _ rfl (Tl.wanted_none rfl) (rn_move rfl ((hF 195 (by decide +kernel)).1 (by decide))) hC (Below.refl _ _) rfl
      · exact Tl.st_skip (Tl.wanted_not (g := 11) rfl rfl ((hF 196 (by decide +kernel)).1 (by decide))) (fun _ h => by cases h; rfl)
      · exact Tl.st_skip (Tl.wanted_not (g := 11) rfl rfl ((hF 196 (by decide +kernel)).1 (by decide))) (fun _ h => by cases h; rfl)
      · exact Tl.st_skip (Tl.wanted_not (g := 11) rfl rfl ((hF 196 (by decide +kernel)).1 (by decide))) (fun _ h => by cases h; rfl)
      · exact Tl.st_val 200 _ rfl (Tl.wanted_none rfl) (rn_pickF rfl ((hF 196 (by decide +kernel)).1 (by decide)) rfl) hC (Below.refl _ _) rfl
      · exact Tl.st_val 201 _ rfl (Tl.wanted_none rfl) (rn_move rfl ((hF 200 (by decide +kernel)).1 (by decide))) hC (Below.refl _ _) rfl
      · exact Tl.st_skip (Tl.wanted_not (g := 16) rfl rfl ((hF 201 (by decide +kernel)).1 (by decide))) (fun _ h => by cases h; rfl)
      · exact Tl.st_skip (Tl.wanted_not (g := 16) rfl rfl ((hF 201 (by decide +kernel)).1 (by decide))) (fun _ h => by cases h; rfl)
      · exact Tl.st_skip (Tl.wanted_not (g := 16) rfl rfl ((hF 201 (by decide +kernel)).1 (by decide))) (fun _ h => by cases h; rfl)
      · exact Tl.st_skip (Tl.wanted_not (g := 16) rfl rfl ((hF 201 (by decide +kernel)).1 (by decide))) (fun _ h => by cases h; rfl)
      · exact Tl.st_skip (Tl.wanted_not (g := 16) rfl rfl ((hF 201 (by decide +kernel)).1 (by decide))) (fun _ h => by cases h; rfl)
      · exact Tl.st_skip (Tl.wanted_not (g := 16) rfl rfl ((hF 201 (by decide +kernel)).1 (by decide))) (fun _ h => by cases h; rfl)
      · exact Tl.st_skip (Tl.wanted_not (g := 16) rfl rfl ((hF 201 (by decide +kernel)).1 (by decide))) (fun _ h => by cases h; rfl)
      · exact Tl.st_skip (Tl.wanted_not (g := 16) rfl rfl ((hF 201 (by decide +kernel)).1 (by decide))) (fun _ h => by cases h; rfl)
      · exact Tl.st_skip (Tl.wanted_not (g := 16) rfl rfl ((hF 201 (by decide +kernel)).1 (by decide))) (fun _ h => by cases h; rfl)
      · exact Tl.st_skip (Tl.wanted_not (g := 16) rfl rfl ((hF 201 (by decide +kernel)).1 (by decide))) (fun _ h => by cases h; rfl)
      · exact Tl.st_skip (Tl.wanted_not (g := 16) rfl rfl ((hF 201 (by decide +kernel)).1 (by decide))) (fun _ h => by cases h; rfl)
      · exact Tl.st_val 213 _ rfl (Tl.wanted_none rfl) (rn_pickF rfl ((hF 201 (by decide +kernel)).1 (by decide)) rfl) hC (Below.refl _ _) rfl
      intro v wE Q5 hv
      have v213 : v 213 = .bool false := hv 213 (by decide)
      simp only [Tl.fill, v213, List.drop_succ_cons, List.drop_zero, wpList]
      simp only [Act.put, List.setIfInBounds_toArray, List.set_cons_succ, List.set_cons_zero]
      clear hv v213 Q4
      go_wp2_with fail
      go_ret
      first | exact ⟨rfl, Q5.sb.bl⟩ | exact ⟨by show Ending.returned (.bool (!((was : Nat) : Int) == ((yn : Nat) : Int))) = _; rw [hnb]; rfl, Q5.sb.bl⟩
    · subst hf0
      have hne : ((was : Nat) : Int) ≠ ((yn : Nat) : Int) := by omega
      have hnb : (((was : Nat) : Int) == ((yn : Nat) : Int)) = false := by rw [beq_eq_false_iff_ne]; exact hne
      refine Tl.wp_tail_lit (by kernel_rfl) 29 [185, 186, 187, 188, 189, 190, 191, 192, 193, 194, 195, 196, 197, 198, 199, 200, 201, 202, 203, 204, 205, 206, 207, 208, 209, 210, 211, 212, 213] 232 rfl (by kernel_rfl) (BkW (shc K N d i p) #[.string a, .string t] X Y ((bs Y).set k yn) w5.heap.size w8.heap.size w) (fun s v _ => v = gv 2 w5.heap.size w8.heap.size Y.size cap k en was yn Y (ofBs (((bs Y).set k yn).take en)) ⟨#[]⟩ 4 s) (fun _ _ _ _ h _ => h) Q4.drew
        ⟨fun a' W' hC hF => ?_, fun a' W' hC hF => ?_, fun a' W' hC hF => ?_, fun a' W' hC hF => ?_, fun a' W' hC hF => ?_, fun a' W' hC hF => ?_, fun a' W' hC hF => ?_, fun a' W' hC hF => ?_, fun a' W' hC hF => ?_, fun a' W' hC hF => ?_, fun a' W' hC hF => ?_, fun a' W' hC hF => ?_, fun a' W' hC hF => ?_, fun a' W' hC hF => ?_, fun a' W' hC hF => ?_, fun a' W' hC hF => ?_, fun a' W' hC hF => ?_, fun a' W' hC hF => ?_, fun a' W' hC hF => ?_, fun a' W' hC hF => ?_, fun a' W' hC hF => ?_, fun a' W' hC hF => ?_, fun a' W' hC hF => ?_, fun a' W' hC hF => ?_, fun a' W' hC hF => ?_, fun a' W' hC hF => ?_, fun a' W' hC hF => ?_, fun a' W' hC hF => ?_, fun a' W' hC hF => ?_, trivial⟩ ?_
      · exact Tl.st_val 185 _ rfl (Tl.wanted_none rfl) (rn_move rfl ((hF 20 (by decide +kernel)).2 (by decide))) hC (Below.refl _ _) rfl
      · exact Tl.st_val 186 _ rfl (Tl.wanted_none rfl) (rn_move rfl ((hF 3 (by decide +kernel)).2 (by decide))) hC (Below.refl _ _) rfl
      · exact Tl.st_val 187 _ rfl (Tl.wanted_none rfl) (rn_neT rfl ((hF 185 (by decide +kernel)).1 (by decide)) ((hF 186 (by decide +kernel)).1 (by decide)) hne) hC (Below.refl _ _) rfl
      · exact Tl.st_val 188 _ rfl (Tl.wanted_none rfl) (rn_move rfl ((hF 187 (by decide +kernel)).1 (by decide))) hC (Below.refl _ _) rfl
      · exact Tl.st_val 189 _ rfl (Tl.wanted_is (g := 3) rfl rfl ((hF 188 (by decide +kernel)).1 (by decide))) (rn_move rfl ((hF 14 (by decide +kernel)).2 (by decide))) hC (Below.refl _ _) rfl
      · exact Tl.st_val 190 _ rfl (Tl.wanted_is (g := 3) rfl rfl ((hF 188 (by decide +kernel)).1 (by decide))) (rn_eq29F rfl ((hF 189 (by decide +kernel)).1 (by decide)) rfl (by decide)) hC (Below.refl _ _) rfl
      · exact Tl.st_val 191 _ rfl (Tl.wanted_none rfl) (rn_pickT rfl ((hF 188 (by decide +kernel)).1 (by decide)) ((hF 190 (by decide +kernel)).1 (by decide))) hC (Below.refl _ _) rfl
      · exact Tl.st_val 192 _ rfl (Tl.wanted_none rfl) (rn_move rfl ((hF 191 (by decide +kernel)).1 (by decide))) hC (Below.refl _ _) rfl
      · exact Tl.st_skip (Tl.wanted_not (g := 7) rfl rfl ((hF 192 (by decide +kernel)).1 (by decide))) (fun _ h => by cases h; rfl)
      · exact Tl.st_skip (Tl.wanted_not (g := 7) rfl rfl ((hF 192 (by decide +kernel)).1 (by decide))) (fun _ h => by cases h; rfl)
      · exact Tl.st_val 195 _ rfl (Tl.wanted_none rfl) (rn_pickF rfl ((hF 192 (by decide +kernel)).1 (by decide)) rfl) hC (Below.refl _ _) rfl
      · exact Tl.st_val 196 _ rfl (Tl.wanted_none rfl) (rn_move rfl ((hF 195 (by decide +kernel)).1 (by decide))) hC (Below.refl _ _) rfl
      · exact Tl.st_skip (Tl.wanted_not (g := 11) rfl rfl ((hF 196 (by decide +kernel)).1 (by decide))) (fun _ h => by cases h; rfl)
      · exact Tl.st_skip (Tl.wanted_not (g := 11) rfl rfl ((hF 196 (by decide +kernel)).1 (by decide))) (fun _ h => by cases h; rfl)
      · exact Tl.st_skip (Tl.wanted_not (g := 11) rfl rfl ((hF 196 (by decide +kernel)).1 (by decide))) (fun _ h => by cases h; rfl)
      · exact Tl.st_val 200 _ rfl (Tl.wanted_none rfl) (rn_pickF rfl ((hF 196 (by decide +kernel)).1 (by decide)) rfl) hC (Below.refl _ _) rfl
      · exact Tl.st_val 201 _ rfl (Tl.wanted_none rfl) (rn_move rfl ((hF 200 (by decide +kernel)).1 (by decide))) hC (Below.refl _ _) rfl
      · exact Tl.st_skip (Tl.wanted_not (g := 16) rfl rfl ((hF 201 (by decide +kernel)).1 (by decide))) (fun _ h => by cases h; rfl)
      · exact Tl.st_skip (Tl.wanted_not (g := 16) rfl rfl ((hF 201 (by decide +kernel)).1 (by decide))) (fun _ h => by cases h; rfl)
      · exact Tl.st_skip (Tl.wanted_not (g := 16) rfl rfl ((hF 201 (by decide +kernel)).1 (by decide))) (fun _ h => by cases h; rfl)
      · exact Tl.st_skip (Tl.wanted_not (g := 16) rfl rfl ((hF 201 (by decide +kernel)).1 (by decide))) (fun _ h => by cases h; rfl)
      · exact Tl.st_skip (Tl.wanted_not (g := 16) rfl rfl ((hF 201 (by decide +kernel)).1 (by decide))) (fun _ h => by cases h; rfl)
      · exact Tl.st_skip (Tl.wanted_not (g := 16) rfl rfl ((hF 201 (by decide +kernel)).1 (by decide))) (fun _ h => by cases h; rfl)
      · exact Tl.st_skip (Tl.wanted_not (g := 16) rfl rfl ((hF 201 (by decide +kernel)).1 (by decide))) (fun _ h => by cases h; rfl)
      · exact Tl.st_skip (Tl.wanted_not (g := 16) rfl rfl ((hF 201 (by decide +kernel)).1 (by decide))) (fun _ h => by cases h; rfl)
      · exact Tl.st_skip (Tl.wanted_not (g := 16) rfl rfl ((hF 201 (by decide +kernel)).1 (by decide))) (fun _ h => by cases h; rfl)
      · exact Tl.st_skip (Tl.wanted_not (g := 16) rfl rfl ((hF 201 (by decide +kernel)).1 (by decide))) (fun _ h => by cases h; rfl)
      · exact Tl.st_skip (Tl.wanted_not (g := 16) rfl rfl ((hF 201 (by decide +kernel)).1 (by decide))) (fun _ h => by cases h; rfl)
      · exact Tl.st_val 213 _ rfl (Tl.wanted_none rfl) (rn_pickF rfl ((hF 201 (by decide +kernel)).1 (by decide)) rfl) hC (Below.refl _ _) rfl
      intro v wE Q5 hv
      have v213 : v 213 = .bool false := hv 213 (by decide)
      simp only [Tl.fill, v213, List.drop_succ_cons, List.drop_zero, wpList]
      simp only [Act.put, List.setIfInBounds_toArray, List.set_cons_succ, List.set_cons_zero]
      clear hv v213 Q4
      go_wp2_with fail
      go_ret
      first | exact ⟨rfl, Q5.sb.bl⟩ | exact ⟨by show Ending.returned (.bool (!((was : Nat) : Int) == ((yn : Nat) : Int))) = _; rw [hnb]; rfl, Q5.sb.bl⟩
    · subst hf0
      have hne : ((was : Nat) : Int) ≠ ((yn : Nat) : Int) := by omega
      have hnb : (((was : Nat) : Int) == ((yn : Nat) : Int)) = false := by rw [beq_eq_false_iff_ne]; exact hne
      refine Tl.wp_tail_lit (by kernel_rfl) 29 [185, 186, 187, 188, 189, 190, 191, 192, 193, 194, 195, 196, 197, 198, 199, 200, 201, 202, 203, 204, 205, 206, 207, 208, 209, 210, 211, 212, 213] 232 rfl (by kernel_rfl) (BkW (shc K N d i p) #[.string a, .string t] X Y ((bs Y).set k yn) w5.heap.size w8.heap.size w) (fun s v _ => v = gv 3 w5.heap.size w8.heap.size Y.size cap k en was yn Y (ofBs (((bs Y).set k yn).take en)) D 0 s) (fun _ _ _ _ h _ => h) Q4.drew
        ⟨fun a' W' hC hF => ?_, fun a' W' hC hF => ?_, fun a' W' hC hF => ?_, fun a' W' hC hF => ?_, fun a' W' hC hF => ?_, fun a' W' hC hF => ?_, fun a' W' hC hF => ?_, fun a' W' hC hF => ?_, fun a' W' hC hF => ?_, fun a' W' hC hF => ?_, fun a' W' hC hF => ?_, fun a' W' hC hF => ?_, fun a' W' hC hF => ?_, fun a' W' hC hF => ?_, fun a' W' hC hF => ?_, fun a' W' hC hF => ?_, fun a' W' hC hF => ?_, fun a' W' hC hF => ?_, fun a' W' hC hF => ?_, fun a' W' hC hF => ?_, fun a' W' hC hF => ?_, fun a' W' hC hF => ?_, fun a' W' hC hF => ?_, fun a' W' hC hF => ?_, fun a' W' hC hF => ?_, fun a' W' hC hF => ?_, fun a' W' hC hF => ?_, fun a' W' hC hF => ?_, fun a' W' hC hF => ?_, trivial⟩ ?_
      · exact Tl.st_val 185 _ rfl (Tl.wanted_none rfl) (rn_move rfl ((hF 20 (by decide +kernel)).2 (by decide))) hC (Below.refl _ _) rfl
      · exact Tl.st_val 186 _ rfl (Tl.wanted_none rfl) (rn_move rfl ((hF 3 (by decide +kernel)).2 (by decide))) hC (Below.refl _ _) rfl
      · exact Tl.st_val 187 _ rfl (Tl.wanted_none rfl) (rn_neT rfl ((hF 185 (by decide +kernel)).1 (by decide)) ((hF 186 (by decide +kernel)).1 (by decide)) hne) hC (Below.refl _ _) rfl
      · exact Tl.st_val 188 _ rfl (Tl.wanted_none rfl) (rn_move rfl ((hF 187 (by decide +kernel)).1 (by decide))) hC (Below.refl _ _) rfl
      · exact Tl.st_val 189 _ rfl (Tl.wanted_is (g := 3) rfl rfl ((hF 188 (by decide +kernel)).1 (by decide))) (rn_move rfl ((hF 14 (by decide +kernel)).2 (by decide))) hC (Below.refl _ _) rfl
      · exact Tl.st_val 190 _ rfl (Tl.wanted_is (g := 3) rfl rfl ((hF 188 (by decide +kernel)).1 (by decide))) (rn_eq29T rfl ((hF 189 (by decide +kernel)).1 (by decide)) rfl) hC (Below.refl _ _) rfl
      · exact Tl.st_val 191 _ rfl (Tl.wanted_none rfl) (rn_pickT rfl ((hF 188 (by decide +kernel)).1 (by decide)) ((hF 190 (by decide +kernel)).1 (by decide))) hC (Below.refl _ _) rfl
      · exact Tl.st_val 192 _ rfl (Tl.wanted_none rfl) (rn_move rfl ((hF 191 (by decide +kernel)).1 (by decide))) hC (Below.refl _ _) rfl
      · exact Tl.st_val 193 _ rfl (Tl.wanted_is (g := 7) rfl rfl ((hF 192 (by decide +kernel)).1 (by decide))) (rn_move rfl ((hF 18 (by decide +kernel)).2 (by decide))) hC (Below.refl _ _) rfl
      · exact Tl.st_val 194 _ rfl (Tl.wanted_is (g := 7) rfl rfl ((hF 192 (by decide +kernel)).1 (by decide))) (rn_geT rfl ((hF 193 (by decide +kernel)).1 (by decide)) rfl (by omega)) hC (Below.refl _ _) rfl
      · exact Tl.st_val 195 _ rfl (Tl.wanted_none rfl) (rn_pickT rfl ((hF 192 (by decide +kernel)).1 (by decide)) ((hF 194 (by decide +kernel)).1 (by decide))) hC (Below.refl _ _) rfl
      · exact Tl.st_val 196 _ rfl (Tl.wanted_none rfl) (rn_move rfl ((hF 195 (by decide +kernel)).1 (by decide))) hC (Below.refl _ _) rfl
      · exact Tl.st_val 197 _ rfl (Tl.wanted_is (g := 11) rfl rfl ((hF 196 (by decide +kernel)).1 (by decide))) (rn_move rfl ((hF 18 (by decide +kernel)).2 (by decide))) hC (Below.refl _ _) rfl
      · exact Tl.st_val 198 _ rfl (Tl.wanted_is (g := 11) rfl rfl ((hF 196 (by decide +kernel)).1 (by decide))) (rn_move rfl ((hF 27 (by decide +kernel)).2 (by decide))) hC (Below.refl _ _) rfl
      · exact Tl.st_val 199 _ rfl (Tl.wanted_is (g := 11) rfl rfl ((hF 196 (by decide +kernel)).1 (by decide))) (rn_ltT rfl ((hF 197 (by decide +kernel)).1 (by decide)) ((hF 198 (by decide +kernel)).1 (by decide)) (by omega)) hC (Below.refl _ _) rfl
      · exact Tl.st_val 200 _ rfl (Tl.wanted_none rfl) (rn_pickT rfl ((hF 196 (by decide +kernel)).1 (by decide)) ((hF 199 (by decide +kernel)).1 (by decide))) hC (Below.refl _ _) rfl
      · exact Tl.st_val 201 _ rfl (Tl.wanted_none rfl) (rn_move rfl ((hF 200 (by decide +kernel)).1 (by decide))) hC (Below.refl _ _) rfl
      · exact Tl.st_val 202 _ rfl (Tl.wanted_is (g := 16) rfl rfl ((hF 201 (by decide +kernel)).1 (by decide))) (rn_f27_1 rfl ((hF 13 (by decide +kernel)).2 (by decide))) hC (Below.refl _ _) rfl
      · exact Tl.st_val 203 _ rfl (Tl.wanted_is (g := 16) rfl rfl ((hF 201 (by decide +kernel)).1 (by decide))) (rn_load9 rfl ((hF 202 (by decide +kernel)).1 (by decide)) (obj_cells hC.ob).2.1) hC (Below.refl _ _) rfl
      · exact Tl.st_val 204 _ rfl (Tl.wanted_is (g := 16) rfl rfl ((hF 201 (by decide +kernel)).1 (by decide))) (rn_move rfl ((hF 27 (by decide +kernel)).2 (by decide))) hC (Below.refl _ _) rfl
      · exact Tl.st_val 205 _ rfl (Tl.wanted_is (g := 16) rfl rfl ((hF 201 (by decide +kernel)).1 (by decide))) (rn_slT rfl ((hF 203 (by decide +kernel)).1 (by decide)) ((hF 204 (by decide +kernel)).1 (by decide)) (by omega)) hC (Below.refl _ _) rfl
      · exact Tl.st_call 206 17 _ rfl (Tl.wanted_is (g := 16) rfl rfl ((hF 201 (by decide +kernel)).1 (by decide))) (rn_call1 rfl rfl ((hF 205 (by decide +kernel)).1 (by decide)) (enter17 _)) ((HD1.out W' (hl.below hC.sb.bl)).mono fun e w'' h => ⟨_, h.1, hC.next h.2, h.2, rfl⟩)
      · exact Tl.st_val 207 _ rfl (Tl.wanted_is (g := 16) rfl rfl ((hF 201 (by decide +kernel)).1 (by decide))) (rn_move rfl ((hF 19 (by decide +kernel)).2 (by decide))) hC (Below.refl _ _) rfl
      · exact Tl.st_val 208 _ rfl (Tl.wanted_is (g := 16) rfl rfl ((hF 201 (by decide +kernel)).1 (by decide))) (rn_move rfl ((hF 27 (by decide +kernel)).2 (by decide))) hC (Below.refl _ _) rfl
      · exact Tl.st_val 209 _ rfl (Tl.wanted_is (g := 16) rfl rfl ((hF 201 (by decide +kernel)).1 (by decide))) (rn_sl43 rfl ((hF 207 (by decide +kernel)).1 (by decide)) ((hF 208 (by decide +kernel)).1 (by decide)) (by omega)) hC (Below.refl _ _) rfl
      · exact Tl.st_val 210 _ rfl (Tl.wanted_is (g := 16) rfl rfl ((hF 201 (by decide +kernel)).1 (by decide))) (rn_conv43 rfl ((hF 209 (by decide +kernel)).1 (by decide)) (hC.br.conv en cap (by rw [List.length_set]; omega))) hC (Below.refl _ _) rfl
      · exact Tl.st_call 211 17 _ rfl (Tl.wanted_is (g := 16) rfl rfl ((hF 201 (by decide +kernel)).1 (by decide))) (rn_call1 rfl rfl ((hF 210 (by decide +kernel)).1 (by decide)) (enter17 _)) ((HD2.out W' (hl.below hC.sb.bl)).mono fun e w'' h => ⟨_, h.1, hC.next h.2, h.2, rfl⟩)
      · exact Tl.st_val 212 _ rfl (Tl.wanted_is (g := 16) rfl rfl ((hF 201 (by decide +kernel)).1 (by decide))) (rn_eq9T rfl ((hF 206 (by decide +kernel)).1 (by decide)) ((hF 211 (by decide +kernel)).1 (by decide))) hC (Below.refl _ _) rfl
      · exact Tl.st_val 213 _ rfl (Tl.wanted_none rfl) (rn_pickT rfl ((hF 201 (by decide +kernel)).1 (by decide)) ((hF 212 (by decide +kernel)).1 (by decide))) hC (Below.refl _ _) rfl
      intro v wE Q5 hv
      have v213 : v 213 = .bool true := hv 213 (by decide)
      simp only [Tl.fill, v213, List.drop_succ_cons, List.drop_zero, wpList]
      simp only [Act.put, List.setIfInBounds_toArray, List.set_cons_succ, List.set_cons_zero]
      clear hv v213 Q4
      go_wp2_with fail
      go_ret
      first | exact ⟨rfl, Q5.sb.bl⟩ | exact ⟨by show Ending.returned (.bool (!((was : Nat) : Int) == ((yn : Nat) : Int))) = _; rw [hnb]; rfl, Q5.sb.bl⟩

/-- SHARDBACK answers yes. -/
theorem back_any (K N : Int) (d : ByteArray) (i : Int) (p a t : ByteArray) (z y : Int) (hy0 : 0 ≤ y) (hy1 : y < 256) (w : World) (hl : Lay w) :
    Calls Tryd.prog 5 #[.agg (shc K N d i p), obv a t, .int .i64 z, .int .u8 y] w fun e w' => e = .returned (.bool true) ∧ Below w.heap.size w w' := by
  by_cases hb : 20000 < p.size ∨ 20000 < t.size ∨ 100 < d.size ∨ 300 < a.size
  · exact back_long K N d i p a t z y hb w hl
  by_cases hk : mkE K N d i p = 0
  · obtain ⟨hI, hN, hp, _, _, e3, h0, h12⟩ := mk_is hk
    have hM := made hk
    have hd := hI.hd
    have hnm : mkN K N d i p = ofBs (nm (bs d) (i.toNat : Int)) := by rw [e3]; exact hN
    have hi12 : i.toNat < 12 := by omega
    refine back_ok K N d i p a t z y (mkN K N d i p) (mkD K N d i p) (by omega) (by omega) (by omega) (by omega) y.toNat (by omega) (by omega) ?_ (rd_mk hk).1 hM.md hM.rd (fun w hl => ?_) w hl
    · rw [hnm, ofBs_size]
      have := nm_length hd hi12
      omega
    · have := parse_yes (mkN K N d i p) d i.toNat ⟨hd, hi12, hnm⟩ w hl
      rw [e3] at this
      exact this
  · exact back_no K N d i p a t z y (by omega) (by omega) (by omega) (by omega) hk w hl
end Go.Proofs.YtnhakbpalfcmfaaDoor
