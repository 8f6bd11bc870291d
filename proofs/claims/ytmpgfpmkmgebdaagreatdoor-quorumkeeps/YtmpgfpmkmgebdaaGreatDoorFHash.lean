/- The library's contracts that this program's functions lean on (strings.Builder, strings.IndexByte, strings.Clone, strconv.Itoa, strconv.Atoi), laid at this program. -/
import Derived.Shelf.Strings.Builder1
import Derived.Shelf.Strconv.Itoa3
import Derived.Shelf.LaysM
import Derived.Shelf.LaysC
import Derived.Test.YtmpgfpmkmgebdaaGreatDoorProg
import Derived.Test.YtmpgfpmkmgebdaaGreatDoorFEat
import Derived.Test.YtmpgfpmkmgebdaaGreatDoorFTurn
import Derived.Deep.Light
import Derived.KernelRfl
import Derived.Test.YtmpgfpmkmgebdaaGreatDoorFFeed
namespace Go.Proofs
open Go.Shelf
def Tryz.lays169_ren : Go.Shelf.Ren := ⟨fun | 169 => 149 | n => n, fun | 70 => 216 | 9 => 9 | 0 => 0 | 72 => 218 | 37 => 141 | 127 => 142 | 3 => 3 | 5 => 5 | n => n, fun | n => n⟩
theorem Tryz.lays169 : Go.Proofs.Lays.n169 Tryz.prog Tryz.lays169_ren := {
  mixed := by kernel_rfl
  f169 := Tryz.func149.trans (congrArg some (by kernel_rfl))
  t0 := Tryz.underlying0
  a0 := Tryz.isAgg0
  z0 := Tryz.sizeOf0
  v0 := Tryz.zeroValue0
  t3 := Tryz.underlying3
  a3 := Tryz.isAgg3
  z3 := Tryz.sizeOf3
  v3 := Tryz.zeroValue3
  t9 := Tryz.underlying9
  a9 := Tryz.isAgg9
  z9 := Tryz.sizeOf9
  v9 := Tryz.zeroValue9
  t37 := Tryz.underlying141
  a37 := Tryz.isAgg141
  z37 := Tryz.sizeOf141
  v37 := Tryz.zeroValue141
  t70 := Tryz.underlying216
  a70 := Tryz.isAgg216
  z70 := Tryz.sizeOf216
  v70 := Tryz.zeroValue216
  t72 := Tryz.underlying218
  a72 := Tryz.isAgg218
  z72 := Tryz.sizeOf218
  v72 := Tryz.zeroValue218
  t127 := Tryz.underlying142
  a127 := Tryz.isAgg142
  z127 := Tryz.sizeOf142
  v127 := Tryz.zeroValue142 }
theorem Tryz.Builder_Extra_169 : Builder.Extra Tryz.prog Tryz.lays169_ren := {
  sizeBuilder := by kernel_rfl
  liesBuilder := by kernel_rfl
  t5 := Tryz.underlying5
  a5 := Tryz.isAgg5
  z5 := Tryz.sizeOf5
  v5 := Tryz.zeroValue5
  infoByte := by kernel_rfl
  cellsByte := by kernel_rfl
  sizeByte := by kernel_rfl
  neB5 := by decide }
open Go.RowKit in
theorem Tryz.Builder_String_any (B b : Nat) (l : List UInt8) (w : World) (h : Lib.IsBuilder 218 5 B b (Lib.byteCells l) w) (hBw : B ≤ w.heap.size) :
    Calls Tryz.prog 149 #[.pointer (some ⟨b, 0, none⟩)] w fun e w' => e = .returned (.string ⟨l.toArray⟩) ∧ Below B w w' := Any.Builder_String_any Tryz.lays169 Tryz.Builder_Extra_169 B b l w h hBw
def Tryz.laysM171_ren : Go.Shelf.Ren := ⟨fun | 171 => 77 | 243 => 102 | 246 => 118 | 283 => 134 | 284 => 135 | 285 => 136 | 286 => 137 | 129 => 151 | 317 => 150 | 318 => 152 | 319 => 153 | 320 => 154 | 337 => 171 | 338 => 172 | n => n, fun | 3 => 3 | 9 => 9 | 2 => 2 | 4 => 4 | 171 => 200 | 0 => 0 | 53 => 201 | 37 => 141 | 5 => 5 | 173 => 204 | 212 => 224 | 51 => 193 | 20 => 20 | 213 => 225 | 46 => 179 | 232 => 254 | 233 => 214 | n => n, fun | 17 => 1 | 18 => 3 | 19 => 4 | n => n⟩
theorem Tryz.laysM171 : Go.Proofs.LaysM.n171 Tryz.prog Tryz.laysM171_ren := {
  mixed := by kernel_rfl
  f129 := Tryz.func151.trans (congrArg some (by kernel_rfl))
  f171 := Tryz.func77.trans (congrArg some (by kernel_rfl))
  f243 := Tryz.func102.trans (congrArg some (by kernel_rfl))
  f246 := Tryz.func118.trans (congrArg some (by kernel_rfl))
  f283 := Tryz.func134.trans (congrArg some (by kernel_rfl))
  f284 := Tryz.func135.trans (congrArg some (by kernel_rfl))
  f285 := Tryz.func136.trans (congrArg some (by kernel_rfl))
  f286 := Tryz.func137.trans (congrArg some (by kernel_rfl))
  f317 := Tryz.func150.trans (congrArg some (by kernel_rfl))
  f318 := Tryz.func152.trans (congrArg some (by kernel_rfl))
  f319 := Tryz.func153.trans (congrArg some (by kernel_rfl))
  f320 := Tryz.func154.trans (congrArg some (by kernel_rfl))
  f337 := Tryz.func171.trans (congrArg some (by kernel_rfl))
  f338 := Tryz.func172.trans (congrArg some (by kernel_rfl))
  t0 := Tryz.underlying0
  a0 := Tryz.isAgg0
  z0 := Tryz.sizeOf0
  v0 := Tryz.zeroValue0
  t2 := Tryz.underlying2
  a2 := Tryz.isAgg2
  z2 := Tryz.sizeOf2
  v2 := Tryz.zeroValue2
  t3 := Tryz.underlying3
  a3 := Tryz.isAgg3
  z3 := Tryz.sizeOf3
  v3 := Tryz.zeroValue3
  t4 := Tryz.underlying4
  a4 := Tryz.isAgg4
  z4 := Tryz.sizeOf4
  v4 := Tryz.zeroValue4
  t5 := Tryz.underlying5
  a5 := Tryz.isAgg5
  z5 := Tryz.sizeOf5
  v5 := Tryz.zeroValue5
  t9 := Tryz.underlying9
  a9 := Tryz.isAgg9
  z9 := Tryz.sizeOf9
  v9 := Tryz.zeroValue9
  t20 := Tryz.underlying20
  a20 := Tryz.isAgg20
  z20 := Tryz.sizeOf20
  v20 := Tryz.zeroValue20
  t37 := Tryz.underlying141
  a37 := Tryz.isAgg141
  z37 := Tryz.sizeOf141
  v37 := Tryz.zeroValue141
  t46 := Tryz.underlying179
  a46 := Tryz.isAgg179
  z46 := Tryz.sizeOf179
  v46 := Tryz.zeroValue179
  t51 := Tryz.underlying193
  a51 := Tryz.isAgg193
  z51 := Tryz.sizeOf193
  v51 := Tryz.zeroValue193
  t53 := Tryz.underlying201
  a53 := Tryz.isAgg201
  z53 := Tryz.sizeOf201
  v53 := Tryz.zeroValue201
  t171 := Tryz.underlying200
  a171 := Tryz.isAgg200
  z171 := Tryz.sizeOf200
  v171 := Tryz.zeroValue200
  t173 := Tryz.underlying204
  a173 := Tryz.isAgg204
  z173 := Tryz.sizeOf204
  v173 := Tryz.zeroValue204
  t212 := Tryz.underlying224
  a212 := Tryz.isAgg224
  z212 := Tryz.sizeOf224
  v212 := Tryz.zeroValue224
  t213 := Tryz.underlying225
  a213 := Tryz.isAgg225
  z213 := Tryz.sizeOf225
  t232 := Tryz.underlying254
  a232 := Tryz.isAgg254
  z232 := Tryz.sizeOf254
  v232 := Tryz.zeroValue254
  t233 := Tryz.underlying214
  a233 := Tryz.isAgg214
  z233 := Tryz.sizeOf214
  v233 := Tryz.zeroValue214
  g17 := by kernel_rfl
  g18 := by kernel_rfl
  g19 := by kernel_rfl
  i0 := by kernel_rfl
  i2 := by kernel_rfl
  i3 := by kernel_rfl
  i4 := by kernel_rfl
  i5 := by kernel_rfl
  i9 := by kernel_rfl
  i20 := by kernel_rfl
  i37 := by kernel_rfl
  i46 := by kernel_rfl
  i51 := by kernel_rfl
  i53 := by kernel_rfl
  i171 := by kernel_rfl
  i173 := by kernel_rfl
  i212 := by kernel_rfl
  i232 := by kernel_rfl
  i233 := by kernel_rfl
  m17 := by kernel_rfl
  m18 := by kernel_rfl
  m19 := by kernel_rfl }
open Go.RowKit Go.Sort Go.Lib in
theorem Tryz.strconv_Itoa (n : Int) (h0 : -9223372036854775808 ≤ n) (h1 : n ≤ 9223372036854775807) (w : World) (htab : Lib.TabIs Tryz.prog w "internal/strconv.uint64pow10" .u64 Lib.pow10Tab) :
    Calls Tryz.prog 77 #[.int .i64 n] w fun e w' => e = .returned (.string ⟨(Lib.itoa n).toArray⟩) ∧ ∃ k os, w' = grow (w.drewN k) os := Any.strconv_Itoa Tryz.laysM171 n h0 h1 w htab
def Tryz.lays167_ren : Go.Shelf.Ren := ⟨fun | 167 => 148 | 240 => 170 | 276 => 183 | n => n, fun | 0 => 0 | 4 => 4 | 5 => 5 | 9 => 9 | 20 => 20 | 37 => 141 | 70 => 216 | 72 => 218 | 75 => 220 | 80 => 183 | 164 => 252 | n => n, fun | n => n⟩
theorem Tryz.lays167 : Go.Proofs.Lays.n167 Tryz.prog Tryz.lays167_ren := {
  mixed := by kernel_rfl
  f167 := Tryz.func148.trans (congrArg some (by kernel_rfl))
  f240 := Tryz.func170.trans (congrArg some (by kernel_rfl))
  f276 := Tryz.func183.trans (congrArg some (by kernel_rfl))
  t0 := by kernel_rfl
  a0 := fun _ => by kernel_rfl
  z0 := fun _ => by kernel_rfl
  v0 := fun _ => by kernel_rfl
  t4 := by kernel_rfl
  a4 := fun _ => by kernel_rfl
  z4 := fun _ => by kernel_rfl
  v4 := fun _ => by kernel_rfl
  t5 := by kernel_rfl
  a5 := fun _ => by kernel_rfl
  z5 := fun _ => by kernel_rfl
  v5 := fun _ => by kernel_rfl
  t9 := by kernel_rfl
  a9 := fun _ => by kernel_rfl
  z9 := fun _ => by kernel_rfl
  v9 := fun _ => by kernel_rfl
  t20 := by kernel_rfl
  a20 := fun _ => by kernel_rfl
  z20 := fun _ => by kernel_rfl
  v20 := fun _ => by kernel_rfl
  t37 := by kernel_rfl
  a37 := fun _ => by kernel_rfl
  z37 := fun _ => by kernel_rfl
  v37 := fun _ => by kernel_rfl
  t70 := by kernel_rfl
  a70 := fun _ => by kernel_rfl
  z70 := fun _ => by kernel_rfl
  v70 := fun _ => by kernel_rfl
  t72 := by kernel_rfl
  a72 := fun _ => by kernel_rfl
  z72 := fun _ => by kernel_rfl
  v72 := fun _ => by kernel_rfl
  t75 := by kernel_rfl
  a75 := fun _ => by kernel_rfl
  z75 := fun _ => by kernel_rfl
  v75 := fun _ => by kernel_rfl
  t164 := by kernel_rfl
  a164 := fun _ => by kernel_rfl
  z164 := fun _ => by kernel_rfl
  v164 := fun _ => by kernel_rfl }
theorem Tryz.Builder_Extra_167 : Builder.Extra Tryz.prog Tryz.lays167_ren := {
  sizeBuilder := by kernel_rfl
  liesBuilder := by kernel_rfl
  t5 := Tryz.underlying5
  a5 := Tryz.isAgg5
  z5 := Tryz.sizeOf5
  v5 := Tryz.zeroValue5
  infoByte := by kernel_rfl
  cellsByte := by kernel_rfl
  sizeByte := by kernel_rfl
  neB5 := by decide }
open Go.RowKit in
theorem Tryz.Builder_WriteByte (B b : Nat) (bs : List Value) (c : Int) (w : World) (h : Lib.IsBuilder 218 5 B b bs w) (hlen : bs.length + 1 ≤ 140737488355328) (hBw : B ≤ w.heap.size) :
    Calls Tryz.prog 148 #[.pointer (some ⟨b, 0, none⟩), .int .u8 c] w fun e w' => e = .returned .nilIface ∧ (Lib.BuilderAt 218 5 B b (.pointer (some ⟨b, 0, none⟩)) (bs ++ [.int .u8 c]) w' ∧ Below B w w') := Any.Builder_WriteByte Tryz.lays167 Tryz.Builder_Extra_167 B b bs c w h hlen hBw
end Go.Proofs
/- A strings.Builder that a call made itself, by the bytes that it holds; strings out of plain numbers. -/
namespace Go.Proofs.YtmpgfpmkmgebdaaGreatDoor.F
open Go.RowKit
/-- a string of these bytes -/
def ofBs (l : List Nat) : ByteArray := ⟨(l.map fun x => x.toUInt8).toArray⟩
theorem bs_ofBs (l : List Nat) (h : ∀ x ∈ l, x < 256) : bs (ofBs l) = l := by
  unfold bs ofBs
  simp only [List.map_map]
  have : List.map ((fun x : UInt8 => x.toNat) ∘ fun x : Nat => x.toUInt8) l = List.map id l := by
    apply List.map_congr_left
    intro x hx
    have := h x hx
    simp [Function.comp]
    omega
  rw [this, List.map_id]
theorem ofBs_bs (s : ByteArray) : ofBs (bs s) = s := by
  have e : (bs s).map (fun x => x.toUInt8) = s.data.toList := by
    unfold bs
    rw [List.map_map]
    have : List.map ((fun x : Nat => x.toUInt8) ∘ fun x : UInt8 => x.toNat) s.data.toList = List.map id s.data.toList := by
      apply List.map_congr_left
      intro x _
      simp [Function.comp]
    rw [this, List.map_id]
  unfold ofBs
  rw [e]
theorem bs_inj {a b : ByteArray} (h : bs a = bs b) : a = b := by rw [← ofBs_bs a, ← ofBs_bs b, h]
theorem ofBs_size (l : List Nat) : (ofBs l).size = l.length := by
  show ((l.map fun x => x.toUInt8).toArray).size = _
  simp
theorem cells_u8 (l : List Nat) (h : ∀ x ∈ l, x < 256) : Lib.byteCells (l.map fun x => x.toUInt8) = (U8s l).toList := by
  unfold Lib.byteCells U8s
  simp only [List.map_map]
  apply List.map_congr_left
  intro x hx
  have := h x hx
  simp [Function.comp]
  omega
/-- the builder in block b holds these bytes -/
def Holds (b : Nat) (l : List Nat) (w : World) : Prop := Lib.IsBuilder 218 5 b b (U8s l).toList w
theorem Holds.lt {b : Nat} {l : List Nat} {w : World} (h : Holds b l w) : b < w.heap.size := h.elim (fun x => x.lt) (fun x => x.lt)
theorem Holds.fresh (w : World) (b : Nat) (hb : b = w.heap.size) : Holds b [] (w.alloc (.cells #[.pointer none, .slice none 0 0] 218)) := by
  subst hb; exact Lib.fresh_isBuilder 218 5 w
theorem write_any (b : Nat) (l : List Nat) (x : Int) (y : Nat) (w : World) (hx : x = (y : Int)) (h : Holds b l w) (hl : l.length ≤ 100000000000000) :
    Calls Tryz.prog 148 #[.pointer (some ⟨b, 0, none⟩), .int .u8 x] w fun e w' => e = .returned .nilIface ∧ Holds b (l ++ [y]) w' ∧ Below b w w' := by
  subst hx
  refine (Tryz.Builder_WriteByte b b _ _ w h (by rw [Array.length_toList, U8s_size]; omega) (Nat.le_of_lt h.lt)).mono ?_
  rintro e w' ⟨rfl, h1, h2⟩
  refine ⟨rfl, Or.inr ?_, h2⟩
  have e : (U8s l).toList ++ [Value.int .u8 (y : Int)] = (U8s (l ++ [y])).toList := by simp [U8s]
  rw [← e]; exact h1
theorem tell_any (b : Nat) (l : List Nat) (w : World) (h : Holds b l w) (hl : ∀ x ∈ l, x < 256) :
    Calls Tryz.prog 149 #[.pointer (some ⟨b, 0, none⟩)] w fun e w' => e = .returned (.string (ofBs l)) ∧ Below b w w' := by
  have h' : Lib.IsBuilder 218 5 b b (Lib.byteCells (l.map fun x => x.toUInt8)) w := by rw [cells_u8 l hl]; exact h
  exact Tryz.Builder_String_any b b _ w h' (Nat.le_of_lt h.lt)
end Go.Proofs.YtmpgfpmkmgebdaaGreatDoor.F
/- The contract of ending: what fills up so many bytes; of what was there nothing changes. -/
namespace Go.Proofs.YtmpgfpmkmgebdaaGreatDoor.F
open Go.RowKit
namespace Sha
/-- how many noughts behind so many bytes -/
def noughts (n : Nat) : Nat := (119 - n % 64) % 64
/-- a number of 64 bits, the highest byte first; the first j bytes of it -/
def be8 (m j : Nat) : List Nat := (List.range j).map fun i => m / 2 ^ (56 - 8 * i) % 256
def ending (n : Nat) : List Nat := [128] ++ List.replicate (noughts n) 0 ++ be8 (n * 8) 8
theorem be8_succ (m j : Nat) : be8 m (j + 1) = be8 m j ++ [m / 2 ^ (56 - 8 * j) % 256] := by
  simp [be8, List.range_succ]
theorem noughts_lt (n : Nat) : noughts n < 64 := Nat.mod_lt _ (by decide)
theorem noughts_at (n : Nat) : (n + 1 + noughts n) % 64 = 56 := by unfold noughts; omega
theorem noughts_not (n k : Nat) (hk : k < noughts n) : (n + 1 + k) % 64 ≠ 56 := by unfold noughts at hk; omega
theorem be8_lt (m j : Nat) : ∀ x ∈ be8 m j, x < 256 := by
  intro x hx
  simp only [be8, List.mem_map] at hx
  obtain ⟨i, _, rfl⟩ := hx
  exact Nat.mod_lt _ (by decide)
theorem ending_lt (n : Nat) : ∀ x ∈ ending n, x < 256 := by
  intro x hx
  simp only [ending, List.mem_append] at hx
  rcases hx with (hx | hx) | hx
  · simp at hx; omega
  · rw [List.eq_of_mem_replicate hx]; decide
  · exact be8_lt _ _ x hx
end Sha
set_option maxRecDepth 20000 in
set_option maxHeartbeats 1000000 in
theorem ending_any (n : Nat) (hn : n ≤ 1000000000000) (w : World) :
    Calls Tryz.prog 129 #[.int .i64 (n : Int)] w fun e w' => e = .returned (.string (ofBs (Sha.ending n))) ∧ Below w.heap.size w w' := by
  have hno := Sha.noughts_lt n
  go_enter Tryz.func129, Tryz.ntmps129
  have hf : Hid (Holds w.heap.size [] (w.alloc (.cells #[.pointer none, .slice none 0 0] 218))) := Holds.fresh w _ rfl
  go_wp2_with fail
  refine (write_any w.heap.size [] 128 128 _ rfl hf.out (by simp)).mono ?_
  rintro e w1 ⟨rfl, h1, b1⟩
  have b1' : Below w.heap.size w w1 := ((Below.refl _ _).alloc (Nat.le_refl _) _).trans b1
  clear b1 hf
  go_wp2_with fail
  go_loopw [4] (fun v wr => ∃ k : Nat, k ≤ Sha.noughts n ∧ v = .int .i64 ((n : Int) + 1 + (k : Int)) ∧ Holds w.heap.size ([128] ++ List.replicate k 0) wr ∧ Below w.heap.size w wr) (fun v _ => n + 65 - (intOf v).toNat)
  case atStart => exact ⟨0, by omega, by simp, h1, b1'⟩
  case round =>
    clear h1 b1'
    obtain ⟨k, hk, rfl, h1, b1⟩ := hrel
    by_cases hlt : k < Sha.noughts n
    · have hne := Sha.noughts_not n k hlt
      have hne' : (((n : Int) + 1 + (k : Int)) % 64 != 56) = true := by rw [bne_iff_ne]; omega
      go_wp2_with (go_at_call 148; refine (write_any w.heap.size _ 0 0 _ rfl h1 (by simp; omega)).mono ?_; rintro e w2 ⟨rfl, h2, b2⟩)
      refine ⟨⟨k + 1, by omega, by go_num, ?_, b1.trans b2⟩, by simp [intOf]; omega⟩
      rw [List.replicate_succ', ← List.append_assoc]; exact h2
    · obtain rfl : k = Sha.noughts n := by omega
      have hat := Sha.noughts_at n
      have hne' : (((n : Int) + 1 + (Sha.noughts n : Int)) % 64 != 56) = false := by rw [bne_eq_false_iff_eq]; omega
      have Hat : Hid _ := hat
      clear hat
      generalize hz' : Sha.noughts n = z at *
      have hz : Hid _ := hz'
      clear hz'
      go_wp2_with fail
      go_loopw [6] (fun v wr => ∃ j : Nat, j ≤ 8 ∧ v = .int .i64 (56 - 8 * (j : Int)) ∧ Holds w.heap.size ([128] ++ List.replicate z 0 ++ Sha.be8 (n * 8) j) wr ∧ Below w.heap.size w wr) (fun v _ => (intOf v + 8).toNat)
      case atStart => exact ⟨0, by omega, by simp, by simpa [Sha.be8] using h1, b1⟩
      case round =>
        clear h1 b1
        obtain ⟨j, hj, rfl, h1, b1⟩ := hrel
        by_cases hlt : j < 8
        · have d0 : decide ((0 : Int) ≤ 56 - 8 * (j : Int)) = true := by simp; omega
          have s0 : (0 : Int) ≤ 56 - 8 * (j : Int) := by omega
          go_wp2_with fail
          refine (write_any w.heap.size _ _ (n * 8 / 2 ^ (56 - 8 * j) % 256) _ (by simp) h1 (by simp [Sha.be8]; omega)).mono ?_
          rintro e w2 ⟨rfl, h2, b2⟩
          go_wp2_with fail
          refine ⟨⟨j + 1, by omega, by go_num, ?_, b1.trans b2⟩, by simp [intOf]; omega⟩
          rw [Sha.be8_succ, ← List.append_assoc]; exact h2
        · obtain rfl : j = 8 := by omega
          have hall : ∀ x ∈ [128] ++ List.replicate z 0 ++ Sha.be8 (n * 8) 8, x < 256 := by
            rw [← hz.out]; exact Sha.ending_lt n
          go_wp2_with (go_at_call 149; refine (tell_any w.heap.size _ _ h1 hall).mono ?_; rintro e w2 ⟨rfl, b2⟩)
          go_ret
          rw [← hz.out]
          exact ⟨rfl, b1.trans b2⟩
end Go.Proofs.YtmpgfpmkmgebdaaGreatDoor.F
/- The contract of tell: the eight numbers as bytes; of what was there nothing changes. -/
namespace Go.Proofs.YtmpgfpmkmgebdaaGreatDoor.F
open Go.RowKit
namespace Sha
/-- a number of 32 bits, the highest byte first; the first j bytes of it -/
def be4 (m j : Nat) : List Nat := (List.range j).map fun i => m / 2 ^ (24 - 8 * i) % 256
theorem be4_succ (m j : Nat) : be4 m (j + 1) = be4 m j ++ [m / 2 ^ (24 - 8 * j) % 256] := by
  simp [be4, List.range_succ]
theorem be4_lt (m j : Nat) : ∀ x ∈ be4 m j, x < 256 := by
  intro x hx
  simp only [be4, List.mem_map] at hx
  obtain ⟨i, _, rfl⟩ := hx
  exact Nat.mod_lt _ (by decide)
def tells (l : List Nat) : List Nat := l.flatMap fun x => be4 x 4
def tell (s : S8) : List Nat := tells (S8.L s)
theorem tells_lt (l : List Nat) : ∀ x ∈ tells l, x < 256 := by
  intro x hx
  simp only [tells, List.mem_flatMap] at hx
  obtain ⟨y, _, hy⟩ := hx
  exact be4_lt y 4 x hy
theorem tells_snoc (l : List Nat) (x : Nat) : tells (l ++ [x]) = tells l ++ be4 x 4 := by simp [tells]
theorem tells_length (l : List Nat) : (tells l).length = 4 * l.length := by
  induction l with
  | nil => rfl
  | cons x l ih => simp [tells, be4] at ih ⊢; omega
end Sha
set_option maxRecDepth 20000 in
set_option maxHeartbeats 1000000 in
theorem tellNumbers_any (t : Sha.S8) (ht : t.ok) (w : World) :
    Calls Tryz.prog 130 #[.agg (S8v t)] w fun e w' => e = .returned (.string (ofBs (Sha.tell t))) ∧ Below w.heap.size w w' := by
  have hidx : Hid (∀ j : Nat, j < 8 → ∀ w, (Instr.index 194 (.agg (S8v t)) (.int .i64 (j : Int))).run Tryz.prog w = .ok (.int .u32 (((S8.L t).getD j 0 : Nat) : Int)) w) := by
    intro j hj w
    rcases eight hj with rfl | rfl | rfl | rfl | rfl | rfl | rfl | rfl <;> kernel_rfl
  have hlt : Hid (∀ j, (S8.L t).getD j 0 < 4294967296) := by
    intro j
    apply getD_lt _ _ (by decide)
    intro x hx
    obtain ⟨h1, h2, h3, h4, h5, h6, h7, h8⟩ := ht
    simp only [S8.L, List.mem_cons, List.not_mem_nil, or_false] at hx
    omega
  have hf : Hid (∀ o, Holds (w.heap.size + 1) [] ((w.alloc o).alloc (.cells #[.pointer none, .slice none 0 0] 218))) := fun o => Holds.fresh (w.alloc o) _ (by simp)
  have hi41 : Hid ((Tryz.prog.info? 194).map (·.size) = some (S8v t).toList.length) := by
    unfold Hid; rw [show (S8v t).toList.length = 8 from rfl]; kernel_rfl
  have Hr : Hid (∀ o, ((w.alloc (.cells (S8v t) 194)).alloc o).rangeAt w.heap.size 0 (S8v t).toList) := fun o => ((Has.new _ _ _ _ rfl).alloc o).range
  go_enter Tryz.func130, Tryz.ntmps130
  go_wp2_with (refine wpList_load_mid rfl 194 _ rfl w.heap.size 0 rfl _ _ (Hr.out _) Tryz.underlying194 rfl hi41.out ?_)
  go_loopw [8] (fun v wr => ∃ i : Nat, i ≤ 8 ∧ v = .int .i64 (i : Int) ∧ Holds (w.heap.size + 1) (Sha.tells ((S8.L t).take i)) wr ∧ Below w.heap.size w wr) (fun v _ => 8 - (intOf v).toNat)
  case atStart => exact ⟨0, by omega, rfl, hf.out _, ((Below.refl _ _).alloc (Nat.le_refl _) _).alloc (by simp) _⟩
  case round =>
    clear hf Hr hi41
    obtain ⟨i, hi, rfl, h1, b1⟩ := hrel
    by_cases hi8 : i < 8
    · have hx := hidx.out i hi8
      have dI : decide ((i : Int) < 8) = true := by simp; omega
      have hl := hlt.out i
      have hll : Hid ((Sha.tells ((S8.L t).take i)).length ≤ 32) := by
        unfold Hid; rw [Sha.tells_length, List.length_take]; omega
      have hsn : Hid (Sha.tells ((S8.L t).take (i + 1)) = Sha.tells ((S8.L t).take i) ++ Sha.be4 ((S8.L t).getD i 0) 4) := by
        unfold Hid
        rw [← Sha.tells_snoc, List.take_succ_eq_append_getElem (show i < (S8.L t).length from hi8)]
        congr 2
        rw [List.getD_eq_getElem?_getD, List.getElem?_eq_getElem (show i < (S8.L t).length from hi8)]
        rfl
      generalize (S8.L t).getD i 0 = x at hx hl hsn
      generalize Sha.tells ((S8.L t).take i) = acc at h1 hsn hll
      go_wp2_with fail
      go_loopw [6] (fun v wr => ∃ j : Nat, j ≤ 4 ∧ v = .int .i64 (24 - 8 * (j : Int)) ∧ Holds (w.heap.size + 1) (acc ++ Sha.be4 x j) wr ∧ Below w.heap.size w wr) (fun v _ => (intOf v + 8).toNat)
      case atStart => exact ⟨0, by omega, by simp, by simpa [Sha.be4] using h1, b1⟩
      case round =>
        clear h1 b1
        obtain ⟨j, hj, rfl, h1, b1⟩ := hrel
        by_cases hlt : j < 4
        · have d0 : decide ((0 : Int) ≤ 24 - 8 * (j : Int)) = true := by simp; omega
          have s0 : (0 : Int) ≤ 24 - 8 * (j : Int) := by omega
          go_wp2_with fail
          refine (write_any (w.heap.size + 1) _ _ (x / 2 ^ (24 - 8 * j) % 256) _ (by simp) h1 (by have := hll.out; simp [Sha.be4]; omega)).mono ?_
          rintro e w2 ⟨rfl, h2, b2⟩
          go_wp2_with fail
          rw [List.append_assoc, ← Sha.be4_succ] at h2
          go_roundw
          case rel =>
            exact ⟨j + 1, by omega, by go_num, h2, b1.trans (b2.mono (by omega))⟩
          case measure => simp [intOf]; omega
        · obtain rfl : j = 4 := by omega
          rw [← hsn.out] at h1
          go_wp2_with fail
          go_roundw
          case rel =>
            exact ⟨i + 1, by omega, by go_num, h1, b1⟩
          case measure => simp [intOf]; omega
    · obtain rfl : i = 8 := by omega
      have e8 : (S8.L t).take 8 = S8.L t := rfl
      rw [e8] at h1
      go_wp2_with (go_at_call 149; refine (tell_any (w.heap.size + 1) _ _ h1 (Sha.tells_lt _)).mono ?_; rintro e w2 ⟨rfl, b2⟩)
      go_ret
      exact ⟨rfl, b1.trans (b2.mono (by omega))⟩
end Go.Proofs.YtmpgfpmkmgebdaaGreatDoor.F
/- Hashes in memory; the contracts of New, Len, and of what a nil hash answers. -/
namespace Go.Proofs.YtmpgfpmkmgebdaaGreatDoor.F
open Go.RowKit
/-- all blocks of w but b stand in w' as they stood -/
structure Only (b : Nat) (w w' : World) : Prop where
  os : w'.os = w.os
  tape : w'.tape = w.tape
  output : w'.output = w.output
  size : w.heap.size ≤ w'.heap.size
  block : ∀ k, k < w.heap.size → k ≠ b → w'.heap[k]? = w.heap[k]?
theorem Only.below {b B : Nat} {w w' : World} (h : Only b w w') (hB : B ≤ b) (hw : B ≤ w.heap.size) : Below B w w' :=
  ⟨h.os, h.tape, h.output, h.size, fun k hk => h.block k (by omega) (by omega)⟩
theorem Only.of_below {b : Nat} {w w' : World} (h : Below w.heap.size w w') : Only b w w' :=
  ⟨h.os, h.tape, h.output, h.size, fun k hk _ => h.block k hk⟩
theorem Only.refl (b : Nat) (w : World) : Only b w w := ⟨rfl, rfl, rfl, Nat.le_refl _, fun _ _ _ => rfl⟩
theorem Only.trans {b : Nat} {x y z : World} (h : Only b x y) (k : Only b y z) : Only b x z :=
  ⟨k.os.trans h.os, k.tape.trans h.tape, k.output.trans h.output, Nat.le_trans h.size k.size, fun i hi hne => (k.block i (Nat.lt_of_lt_of_le hi h.size) hne).trans (h.block i hi hne)⟩
theorem Only.setCell {b : Nat} {w w' : World} (h : Only b w w') (i : Nat) (v : Value) : Only b w (w'.setCell ⟨b, i, none⟩ v) :=
  h.trans ⟨rfl, rfl, rfl, by simp, fun k _ hne => Below.heap_setCell _ _ _ _ hne⟩
theorem Has.only {w w' : World} {b k : Nat} {cs : Array Value} {t : TypeId} (h : Has w k cs t) (ho : Only b w w') (hne : k ≠ b) : Has w' k cs t := by
  have hl := h.lt
  unfold Has at h ⊢; rw [ho.block k hl hne]; exact h
theorem HasC.only {w w' : World} {b k : Nat} {cs : Array Value} (h : HasC w k cs) (ho : Only b w w') (hne : k ≠ b) : HasC w' k cs := by
  have hl := h.lt
  obtain ⟨t, fr, h⟩ := h
  exact ⟨t, fr, by rw [ho.block k hl hne]; exact h⟩
theorem Tabs.only {w w' : World} {b : Nat} (h : Tabs w) (ho : Only b w w') (hb : 2 < b) : Tabs w' := ⟨h.sq.only ho (by omega), h.cu.only ho (by omega)⟩
/-- a hash's cells -/
def hashCells (t : Sha.S8) (rv : Value) (n : Nat) : Array Value := #[.int .u32 (t.a : Int), .int .u32 (t.b : Int), .int .u32 (t.c : Int), .int .u32 (t.d : Int), .int .u32 (t.e : Int), .int .u32 (t.f : Int), .int .u32 (t.g : Int), .int .u32 (t.h : Int), rv, .int .i64 (n : Int)]
/-- the hash in block b has had these bytes added -/
def IsHash (w : World) (b : Nat) (l : List Nat) : Prop := ∃ rv, Has w b (hashCells (Sha.eat Sha.init l) rv l.length) 196 ∧ IsBytes w rv (Sha.left l)
theorem IsBytes.below {w w' : World} {v : Value} {l : List Nat} (h : IsBytes w v l) (ho : Below w.heap.size w w') : IsBytes w' v l := by
  obtain ⟨sp, rfl, h⟩ := h
  refine ⟨sp, rfl, fun hp => ?_⟩
  obtain ⟨rb, cs', t, h1, h2, h3, h4, h5⟩ := h hp
  exact ⟨rb, cs', t, h1, h2.below ho h2.lt, h3, h4, h5⟩
theorem IsHash.lt {w : World} {b : Nat} {l : List Nat} (h : IsHash w b l) : b < w.heap.size := by obtain ⟨_, h, _⟩ := h; exact h.lt
namespace Sha
/-- the digest of bytes -/
def digest (l : List Nat) : List Nat := tell (eat init (l ++ ending l.length))
end Sha
theorem new_any (w : World) (ht : Tabs w) : Calls Tryz.prog 112 #[] w fun e w' => e = .returned (.pointer (some ⟨w.heap.size, 0, none⟩)) ∧ IsHash w' w.heap.size [] ∧ Below w.heap.size w w' := by
  have k0 : w.cell? ⟨0, 0, none⟩ = some (.int .u32 1779033703) := ht.sq.cell 0
  have k1 : w.cell? ⟨0, 1, none⟩ = some (.int .u32 3144134277) := ht.sq.cell 1
  have k2 : w.cell? ⟨0, 2, none⟩ = some (.int .u32 1013904242) := ht.sq.cell 2
  have k3 : w.cell? ⟨0, 3, none⟩ = some (.int .u32 2773480762) := ht.sq.cell 3
  have k4 : w.cell? ⟨0, 4, none⟩ = some (.int .u32 1359893119) := ht.sq.cell 4
  have k5 : w.cell? ⟨0, 5, none⟩ = some (.int .u32 2600822924) := ht.sq.cell 5
  have k6 : w.cell? ⟨0, 6, none⟩ = some (.int .u32 528734635) := ht.sq.cell 6
  have k7 : w.cell? ⟨0, 7, none⟩ = some (.int .u32 1541459225) := ht.sq.cell 7
  go_enter Tryz.func112, Tryz.ntmps112
  go_wp2
  go_ret
  refine ⟨rfl, ⟨.slice none 0 0, Has.new w w.heap.size _ 196 rfl, ⟨none, rfl, fun h => by simp [Sha.left] at h⟩⟩, (Below.refl _ _).alloc (Nat.le_refl _) _⟩
end Go.Proofs.YtmpgfpmkmgebdaaGreatDoor.F
