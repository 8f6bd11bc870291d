/- The contracts of the library that the store leans on (strings.Clone, maps.Clone, slices.Sorted of maps.Keys), laid at this program. -/
import Derived.Shelf.SlGeneric
import Derived.Shelf.LaysM
import Derived.Shelf.Strconv.Clone
import Derived.Shelf.SlMaps.Clone
import Derived.Ground.SlmcProg
import Derived.Shelf.SlIter.Nil
import Derived.Shelf.SortM.Plain
import Derived.Shelf.SortM.SortNone
import Derived.Ground.GgzProg
import Derived.Ground.SlgmProg
import Derived.Ground.NamesProg
import Derived.Test.YtmpgfpmkmgebdaaGreatDoorProg
import Derived.Test.YtmpgfpmkmgebdaaGreatDoorWHeap
import Derived.Test.YtmpgfpmkmgebdaaGreatDoorWTl
import Derived.Maps.Ext
import Derived.Maps.RangeWalk
import Derived.Maps.StringElems
import Derived.Sort.Walk0
namespace Go.Proofs.YtmpgfpmkmgebdaaGreatDoor.W
open Go.Shelf
def Tryz.laysM316_ren : Go.Shelf.Ren := ⟨fun | 316 => 48 | n => n, fun | 9 => 9 | 3 => 3 | 4 => 4 | 37 => 141 | 0 => 0 | 127 => 142 | 5 => 5 | n => n, fun | n => n⟩
theorem Tryz.laysM316 : Go.Proofs.LaysM.n316 Tryz.prog Tryz.laysM316_ren := {
  mixed := by kernel_rfl
  f316 := Tryz.func48.trans (congrArg some (by kernel_rfl))
  t0 := Tryz.underlying0
  a0 := Tryz.isAgg0
  z0 := Tryz.sizeOf0
  v0 := Tryz.zeroValue0
  t3 := Tryz.underlying3
  a3 := Tryz.isAgg3
  z3 := Tryz.sizeOf3
  v3 := Tryz.zeroValue3
  t4 := Tryz.underlying4
  a4 := Tryz.isAgg4
  z4 := Tryz.sizeOf4
  v4 := Tryz.zeroValue4
  t9 := Tryz.underlying9
  a9 := Tryz.isAgg9
  z9 := Tryz.sizeOf9
  v9 := Tryz.zeroValue9
  t37 := Tryz.underlying141
  a37 := Tryz.isAgg141
  z37 := Tryz.sizeOf141
  v37 := Tryz.zeroValue141
  t127 := Tryz.underlying142
  a127 := Tryz.isAgg142
  z127 := Tryz.sizeOf142
  v127 := Tryz.zeroValue142
  t5 := Tryz.underlying5
  a5 := Tryz.isAgg5
  z5 := Tryz.sizeOf5
  v5 := Tryz.zeroValue5
  i0 := by kernel_rfl
  i3 := by kernel_rfl
  i4 := by kernel_rfl
  i5 := by kernel_rfl
  i9 := by kernel_rfl
  i37 := by kernel_rfl
  i127 := by kernel_rfl }
def Tryz.cloneM_ren : Go.Shelf.Ren := ⟨fun | 5 => 81 | 7 => 104 | n => n, fun | 23 => 98 | 25 => 9 | 3 => 120 | 4 => 4 | 20 => 20 | n => n, fun | n => n⟩
theorem Tryz.cloneM : Go.Proofs.SlLaysW.n5 Tryz.prog Tryz.cloneM_ren := {
  mixed := by kernel_rfl
  f5 := ⟨Tryz.f81.name, by decide, Tryz.func81.trans (congrArg some (by kernel_rfl))⟩
  f7 := Tryz.func104.trans (congrArg some (by kernel_rfl))
  t4 := Tryz.underlying4
  a4 := Tryz.isAgg4
  z4 := Tryz.sizeOf4
  v4 := Tryz.zeroValue4
  t20 := Tryz.underlying20
  a20 := Tryz.isAgg20
  z20 := Tryz.sizeOf20
  v20 := Tryz.zeroValue20
  t23 := Tryz.underlying98
  a23 := Tryz.isAgg98
  z23 := Tryz.sizeOf98
  v23 := Tryz.zeroValue98 }
def Tryz.keys75_ren : Go.Shelf.Ren := ⟨fun | 7 => 110 | 10 => 127 | n => n, fun | 23 => 98 | 26 => 9 | 3 => 120 | 28 => 175 | 0 => 0 | 27 => 174 | 33 => 52 | 4 => 4 | n => n, fun | n => n⟩
set_option maxRecDepth 20000 in
theorem Tryz.keys75 : Go.Proofs.SlLaysZ.n7 Tryz.prog Tryz.keys75_ren := {
  mixed := by kernel_rfl
  f7 := ⟨Tryz.f110.name, by decide, Tryz.func110.trans (congrArg some (by kernel_rfl))⟩
  f10 := ⟨Tryz.f127.name, by decide, Tryz.func127.trans (congrArg some (by kernel_rfl))⟩
  t0 := Tryz.underlying0
  a0 := Tryz.isAgg0
  z0 := Tryz.sizeOf0
  v0 := Tryz.zeroValue0
  t4 := Tryz.underlying4
  a4 := Tryz.isAgg4
  z4 := Tryz.sizeOf4
  v4 := Tryz.zeroValue4
  t23 := Tryz.underlying98
  a23 := Tryz.isAgg98
  z23 := Tryz.sizeOf98
  v23 := Tryz.zeroValue98
  t26 := Tryz.underlying9
  a26 := Tryz.isAgg9
  z26 := Tryz.sizeOf9
  v26 := Tryz.zeroValue9
  t27 := Tryz.underlying174
  a27 := Tryz.isAgg174
  z27 := Tryz.sizeOf174
  v27 := Tryz.zeroValue174
  t28 := Tryz.underlying175
  a28 := Tryz.isAgg175
  z28 := Tryz.sizeOf175
  v28 := Tryz.zeroValue175
  t33 := Tryz.underlying52
  a33 := Tryz.isAgg52
  z33 := Tryz.sizeOf52
  v33 := Tryz.zeroValue52 }
def Tryz.sorted74_ren : Go.Shelf.Ren := ⟨fun | 6 => 109 | 8 => 125 | 9 => 126 | 11 => 144 | 13 => 146 | 12 => 145 | 23 => 167 | 24 => 151 | 14 => 158 | 15 => 159 | 16 => 160 | 17 => 161 | 18 => 162 | 19 => 163 | 20 => 164 | 21 => 165 | 22 => 166 | 25 => 176 | 26 => 177 | 27 => 178 | 28 => 179 | 29 => 180 | 30 => 181 | 31 => 184 | n => n, fun | 26 => 9 | 28 => 175 | 24 => 38 | 0 => 0 | 3 => 3 | 37 => 179 | 48 => 193 | 50 => 201 | 4 => 4 | 40 => 231 | 39 => 230 | 45 => 236 | 5 => 5 | 9 => 9 | 51 => 246 | 55 => 250 | 57 => 255 | 58 => 256 | 33 => 52 | n => n, fun | n => n⟩
set_option maxRecDepth 20000 in
theorem Tryz.sorted74 : Go.Proofs.SlLaysZ.n6 Tryz.prog Tryz.sorted74_ren := {
  mixed := by kernel_rfl
  f6 := ⟨Tryz.f109.name, by decide, Tryz.func109.trans (congrArg some (by kernel_rfl))⟩
  f8 := ⟨Tryz.f125.name, by decide, Tryz.func125.trans (congrArg some (by kernel_rfl))⟩
  f11 := ⟨Tryz.f144.name, by decide, Tryz.func144.trans (congrArg some (by kernel_rfl))⟩
  t0 := Tryz.underlying0
  a0 := Tryz.isAgg0
  z0 := Tryz.sizeOf0
  v0 := Tryz.zeroValue0
  t24 := Tryz.underlying38
  a24 := Tryz.isAgg38
  z24 := Tryz.sizeOf38
  v24 := Tryz.zeroValue38
  t26 := Tryz.underlying9
  a26 := Tryz.isAgg9
  z26 := Tryz.sizeOf9
  v26 := Tryz.zeroValue9
  t28 := Tryz.underlying175
  a28 := Tryz.isAgg175
  z28 := Tryz.sizeOf175
  v28 := Tryz.zeroValue175
  i26 := by kernel_rfl }
def Tryz.sort80_ren : Go.Shelf.Ren := ⟨fun | 6 => 126 | 8 => 146 | 9 => 145 | 19 => 167 | 20 => 151 | 21 => 158 | 22 => 159 | 23 => 160 | 24 => 161 | 25 => 162 | 26 => 163 | 27 => 164 | 28 => 165 | 29 => 166 | 36 => 176 | 31 => 177 | 32 => 178 | 37 => 179 | 38 => 180 | 39 => 181 | 41 => 184 | n => n, fun | 27 => 38 | 29 => 9 | 3 => 3 | 32 => 179 | 26 => 38 | 0 => 0 | 44 => 193 | 46 => 201 | 4 => 4 | 36 => 231 | 35 => 230 | 41 => 236 | 5 => 5 | 9 => 9 | 53 => 246 | 57 => 250 | 63 => 255 | 64 => 256 | n => n, fun | n => n⟩
theorem Tryz.sort80 : Go.Proofs.SlLaysM.n6 Tryz.prog Tryz.sort80_ren := {
  mixed := by kernel_rfl
  f6 := ⟨Tryz.f126.name, by decide, Tryz.func126.trans (congrArg some (by kernel_rfl))⟩
  f8 := Tryz.func146.trans (congrArg some (by kernel_rfl))
  f9 := ⟨Tryz.f145.name, by decide, Tryz.func145.trans (congrArg some (by kernel_rfl))⟩
  f19 := Tryz.func167.trans (congrArg some (by kernel_rfl))
  f20 := Tryz.func151.trans (congrArg some (by kernel_rfl))
  f21 := ⟨Tryz.f158.name, by decide, Tryz.func158.trans (congrArg some (by kernel_rfl))⟩
  f22 := ⟨Tryz.f159.name, by decide, Tryz.func159.trans (congrArg some (by kernel_rfl))⟩
  f23 := ⟨Tryz.f160.name, by decide, Tryz.func160.trans (congrArg some (by kernel_rfl))⟩
  f24 := ⟨Tryz.f161.name, by decide, Tryz.func161.trans (congrArg some (by kernel_rfl))⟩
  f25 := ⟨Tryz.f162.name, by decide, Tryz.func162.trans (congrArg some (by kernel_rfl))⟩
  f26 := ⟨Tryz.f163.name, by decide, Tryz.func163.trans (congrArg some (by kernel_rfl))⟩
  f27 := ⟨Tryz.f164.name, by decide, Tryz.func164.trans (congrArg some (by kernel_rfl))⟩
  f28 := ⟨Tryz.f165.name, by decide, Tryz.func165.trans (congrArg some (by kernel_rfl))⟩
  f29 := ⟨Tryz.f166.name, by decide, Tryz.func166.trans (congrArg some (by kernel_rfl))⟩
  f31 := Tryz.func177.trans (congrArg some (by kernel_rfl))
  f32 := Tryz.func178.trans (congrArg some (by kernel_rfl))
  f36 := ⟨Tryz.f176.name, by decide, Tryz.func176.trans (congrArg some (by kernel_rfl))⟩
  f37 := ⟨Tryz.f179.name, by decide, Tryz.func179.trans (congrArg some (by kernel_rfl))⟩
  f38 := ⟨Tryz.f180.name, by decide, Tryz.func180.trans (congrArg some (by kernel_rfl))⟩
  f39 := ⟨Tryz.f181.name, by decide, Tryz.func181.trans (congrArg some (by kernel_rfl))⟩
  f41 := ⟨Tryz.f184.name, by decide, Tryz.func184.trans (congrArg some (by kernel_rfl))⟩
  t0 := Tryz.underlying0
  a0 := Tryz.isAgg0
  z0 := Tryz.sizeOf0
  v0 := Tryz.zeroValue0
  t3 := Tryz.underlying3
  a3 := Tryz.isAgg3
  z3 := Tryz.sizeOf3
  v3 := Tryz.zeroValue3
  t4 := Tryz.underlying4
  a4 := Tryz.isAgg4
  z4 := Tryz.sizeOf4
  v4 := Tryz.zeroValue4
  t5 := Tryz.underlying5
  a5 := Tryz.isAgg5
  z5 := Tryz.sizeOf5
  v5 := Tryz.zeroValue5
  t9 := Tryz.underlying9
  a9 := Tryz.isAgg9
  z9 := Tryz.sizeOf9
  v9 := Tryz.zeroValue9
  t26 := Tryz.underlying38
  a26 := Tryz.isAgg38
  z26 := Tryz.sizeOf38
  v26 := Tryz.zeroValue38
  t27 := Tryz.underlying38
  a27 := Tryz.isAgg38
  z27 := Tryz.sizeOf38
  v27 := Tryz.zeroValue38
  t29 := Tryz.underlying9
  a29 := Tryz.isAgg9
  z29 := Tryz.sizeOf9
  v29 := Tryz.zeroValue9
  t32 := Tryz.underlying179
  a32 := Tryz.isAgg179
  z32 := Tryz.sizeOf179
  v32 := Tryz.zeroValue179
  t35 := Tryz.underlying230
  a35 := Tryz.isAgg230
  z35 := Tryz.sizeOf230
  v35 := Tryz.zeroValue230
  t36 := Tryz.underlying231
  a36 := Tryz.isAgg231
  z36 := Tryz.sizeOf231
  v36 := Tryz.zeroValue231
  t41 := Tryz.underlying236
  a41 := Tryz.isAgg236
  z41 := Tryz.sizeOf236
  v41 := Tryz.zeroValue236
  t44 := Tryz.underlying193
  a44 := Tryz.isAgg193
  z44 := Tryz.sizeOf193
  v44 := Tryz.zeroValue193
  t46 := Tryz.underlying201
  a46 := Tryz.isAgg201
  z46 := Tryz.sizeOf201
  v46 := Tryz.zeroValue201
  t53 := Tryz.underlying246
  a53 := Tryz.isAgg246
  z53 := Tryz.sizeOf246
  v53 := Tryz.zeroValue246
  t57 := Tryz.underlying250
  a57 := Tryz.isAgg250
  z57 := Tryz.sizeOf250
  v57 := Tryz.zeroValue250
  t63 := Tryz.underlying255
  a63 := Tryz.isAgg255
  z63 := Tryz.sizeOf255
  v63 := Tryz.zeroValue255
  t64 := Tryz.underlying256
  a64 := Tryz.isAgg256
  z64 := Tryz.sizeOf256
  v64 := Tryz.zeroValue256 }
open Go.RowKit Go.Maps Go.Sort
theorem Tryz.sorts74 (m : Nat) : AnyZ.SortsIn Tryz.prog Tryz.sorted74_ren Fence.wide m :=
  ⟨fun blk off cap ss W hH hblk hsz => callsIn_wide.2 (AnyM.slices_Sort_string Tryz.sort80 blk off cap ss W hH hblk hsz),
   fun p cap W => callsIn_wide.2 (AnyM.slices_Sort_string_none Tryz.sort80 p cap W)⟩
theorem Tryz.maps_Keys_75 (mb : Option Nat) (W : World) : CallsIn Fence.wide 5 Tryz.prog 110 #[.map mb] W fun e w' => e = .returned (.func (.func 127) #[] #[.pointer (some ⟨W.heap.size, 0, none⟩)]) ∧ w' = W.alloc (.cells #[.map mb] 98) :=
  AnyZ.keys_in Tryz.keys75 Fence.wide 5 trivial rfl mb W
set_option maxHeartbeats 1000000 in
theorem Tryz.slices_Sorted_keys_74_75 {H : Type} (b nn : Nat) (D0 : DataW H) (R : Value → Option (DataW H × List MemPlace)) (w : World) (hown : w.ownsMap Tryz.prog 9 R b nn D0) (hmax : Maps.size D0 ≤ maxLen) (hbytes : Maps.size D0 * 16 ≤ 140737488355328) :
    CallsIn Fence.wide 5 Tryz.prog 109 #[.func (.func 127) #[] #[.pointer (some ⟨w.heap.size, 0, none⟩)]] (w.alloc (.cells #[.map (some b)] 98)) fun e w' => ∃ (v : Value) (ss : List (List UInt8)), e = .returned v ∧ ss.Perm (strKeys D0) ∧
      w'.ownsRow (w.alloc (.cells #[.map (some b)] 98)).heap.size 9 1 v ss.length ((ss.mergeSort (fun x y => decide (x ≤ y))).map encStr) ∧ (v = .slice none 0 0 ↔ ss = []) ∧ Below (w.alloc (.cells #[.map (some b)] 98)).heap.size (w.alloc (.cells #[.map (some b)] 98)) w' := by
  have hbl := hown.lt
  have hseq : SeqGives Fence.wide 2 Tryz.prog 127 #[.pointer (some ⟨w.heap.size, 0, none⟩)] encStr (fun ss => ss.Perm (strKeys D0)) (Maps.size D0) (w.alloc (.cells #[.map (some b)] 98)) :=
    AnyZ.keys_gives (ρ := Tryz.keys75_ren) { Tryz.keys75 with } Fence.wide _ trivial rfl (by omega) w.heap.size b nn D0 _ (by simp) (by simp) (by
      obtain ⟨es, clock, hb, Ft, hs, hD⟩ := hown
      exact ⟨es, clock, (Below.heap_alloc _ _ b hbl).trans hb, Ft, hs, hD⟩)
  exact AnyZ.sorted_in Tryz.sorted74 Fence.wide 5 trivial trivial trivial trivial rfl (by omega) (Tryz.sorts74 _) (enters_of Tryz.func126 (by kernel_rfl) rfl) 127 #[.pointer (some ⟨w.heap.size, 0, none⟩)] trivial (enters_of Tryz.func127 (by kernel_rfl) rfl) _ _ hmax hbytes _ hseq
set_option maxHeartbeats 1000000 in
theorem Tryz.slices_Sorted_keys_nil_74_75 (w : World) :
    CallsIn Fence.wide 5 Tryz.prog 109 #[.func (.func 127) #[] #[.pointer (some ⟨w.heap.size, 0, none⟩)]] (w.alloc (.cells #[.map none] 98)) fun e w' => ∃ (v : Value) (ss : List (List UInt8)), e = .returned v ∧ ss = [] ∧
      w'.ownsRow (w.alloc (.cells #[.map none] 98)).heap.size 9 1 v ss.length ((ss.mergeSort (fun x y => decide (x ≤ y))).map encStr) ∧ (v = .slice none 0 0 ↔ ss = []) ∧ Below (w.alloc (.cells #[.map none] 98)).heap.size (w.alloc (.cells #[.map none] 98)) w' := by
  have hseq : SeqGives Fence.wide 2 Tryz.prog 127 #[.pointer (some ⟨w.heap.size, 0, none⟩)] encStr (fun ss : List (List UInt8) => ss = []) 0 (w.alloc (.cells #[.map none] 98)) :=
    AnyZ.keys_gives_nil (ρ := Tryz.keys75_ren) { Tryz.keys75 with } Fence.wide _ trivial rfl w.heap.size _ (by simp) (by simp)
  exact AnyZ.sorted_in Tryz.sorted74 Fence.wide 5 trivial trivial trivial trivial rfl (by omega) (Tryz.sorts74 _) (enters_of Tryz.func126 (by kernel_rfl) rfl) 127 #[.pointer (some ⟨w.heap.size, 0, none⟩)] trivial (enters_of Tryz.func127 (by kernel_rfl) rfl) _ 0 (Nat.zero_le _) (by omega) _ hseq
theorem Tryz.stringslite_Clone (s : ByteArray) (w : World) (hlim : s.size ≤ 281474976710656) :
    Calls Tryz.prog 48 #[.string s] w fun e w' => e = .returned (.string s) ∧ Below w.heap.size w w' := Any.stringslite_Clone Tryz.laysM316 s w hlim
theorem Tryz.maps_Clone_owns {H : Type} (k : TypeId) (R : Value → Option (DataW H × List MemPlace)) (b n : Nat) (D : DataW H) (w : World) (hown : w.ownsMap Tryz.prog k R b n D) :
    Calls Tryz.prog 81 #[.map (some b)] w fun e w' => e = .returned (.map (some w.heap.size)) ∧ w'.ownsMap Tryz.prog k R w.heap.size n D ∧ w'.ownsMap Tryz.prog k R b n D ∧ Below w.heap.size w w' := AnyW.maps_Clone_owns Tryz.cloneM k R b n D w hown
theorem Tryz.maps_Clone_nil (w : World) : Calls Tryz.prog 81 #[.map none] w fun e w' => e = .returned (.map none) ∧ w' = w := AnyW.maps_Clone_nil Tryz.cloneM w
end Go.Proofs.YtmpgfpmkmgebdaaGreatDoor.W
/- What a store is, and how it lies in memory: a map of what is seen, a row of writes. -/
namespace Go.Proofs.YtmpgfpmkmgebdaaGreatDoor.W
open Go.RowKit Go.Maps
/-- nothing has turned but blocks of S, and new ones -/
structure Only (S : Nat → Prop) (w w' : World) : Prop where
  os : w'.os = w.os
  tape : w'.tape = w.tape
  output : w'.output = w.output
  size : w.heap.size ≤ w'.heap.size
  block : ∀ k, k < w.heap.size → ¬ S k → w'.heap[k]? = w.heap[k]?
theorem Only.refl (S : Nat → Prop) (w : World) : Only S w w := ⟨rfl, rfl, rfl, Nat.le_refl _, fun _ _ _ => rfl⟩
theorem Only.trans {S S' : Nat → Prop} {a b c : World} (h : Only S a b) (k : Only S' b c) (hs : ∀ i, S' i → S i ∨ a.heap.size ≤ i) : Only S a c :=
  ⟨k.os.trans h.os, k.tape.trans h.tape, k.output.trans h.output, Nat.le_trans h.size k.size, fun i hi hn => (k.block i (Nat.lt_of_lt_of_le hi h.size) fun hk => by
    rcases hs i hk with h1 | h1
    · exact hn h1
    · omega).trans (h.block i hi hn)⟩
theorem Only.of_below {S : Nat → Prop} {w w' : World} (h : Below w.heap.size w w') : Only S w w' := ⟨h.os, h.tape, h.output, h.size, fun i hi _ => h.block i hi⟩
theorem Only.next {S : Nat → Prop} {a b c : World} (h : Only S a b) (k : Below b.heap.size b c) : Only S a c := h.trans (Only.of_below (S := S) k) fun _ h => .inl h
theorem Only.of_grown {S : Nat → Prop} {w w' : World} {row : Option Nat} (h : w.grownBy w' row) (hr : ∀ k, row = some k → S k) : Only S w w' :=
  ⟨h.os, h.tape, h.output, h.size, fun i hi hn => h.block i hi fun e => hn (hr i e.symm)⟩
theorem Only.set {S : Nat → Prop} {a w : World} (h : Only S a w) {p : Addr} (hp : S p.block ∨ a.heap.size ≤ p.block) (u : Value) : Only S a (w.setCell p u) :=
  h.trans (S' := fun i => i = p.block) ⟨rfl, rfl, rfl, by simp [World.setCell], fun i _ hn => Below.heap_setCell _ _ _ _ hn⟩ fun i hi => by rw [hi]; exact hp
theorem Only.alloc {S : Nat → Prop} {a w : World} (h : Only S a w) (o : Obj) : Only S a (w.alloc o) := h.next ((Below.refl _ _).alloc (Nat.le_refl _) _)
theorem Only.drew {S : Nat → Prop} {a w : World} (h : Only S a w) : Only S a w.drew := ⟨h.os, h.tape, h.output, h.size, h.block⟩
theorem Only.below {S : Nat → Prop} {w w' : World} (h : Only S w w') {B : Nat} (hB : B ≤ w.heap.size) (hs : ∀ i, S i → B ≤ i) : Below B w w' :=
  ⟨h.os, h.tape, h.output, h.size, fun i hi => h.block i (by omega) fun hi' => by have := hs i hi'; omega⟩
theorem Only.mono {S S' : Nat → Prop} {w w' : World} (h : Only S w w') (hs : ∀ i, S i → S' i) : Only S' w w' := ⟨h.os, h.tape, h.output, h.size, fun i hi hn => h.block i hi fun hk => hn (hs i hk)⟩
theorem Only.has {S : Nat → Prop} {w w' : World} (h : Only S w w') {b : Nat} {cs : Array Value} {t : TypeId} (hh : Has w b cs t) (hn : ¬ S b) : Has w' b cs t := by
  have hl := hh.lt; unfold Has at hh ⊢; rw [h.block b hl hn]; exact hh
/-- what stands under a name, as a value -/
def cv (c : Option ByteArray) : Value := .agg #[.bool c.isSome, .string (c.getD ⟨#[]⟩)]
theorem cv_none : cv none = .agg #[.bool false, .string ⟨#[]⟩] := rfl
theorem cv_some (d : ByteArray) : cv (some d) = .agg #[.bool true, .string d] := rfl
/-- how an element of the map reads -/
def contR (v : Value) : Option (DataW Unit × List MemPlace) := match v with
  | .agg ⟨[.bool true, .string s]⟩ => some (.lit (.string s.data.toList), [])
  | _ => none
theorem contR_some (d : ByteArray) : contR (cv (some d)) = some (.lit (.string d.data.toList), []) := rfl
theorem contR_inv {v : Value} {y : DataW Unit × List MemPlace} (h : contR v = some y) : ∃ d : ByteArray, v = cv (some d) ∧ y = (.lit (.string d.data.toList), []) := by
  unfold contR at h
  split at h
  · cases h; exact ⟨_, rfl, rfl⟩
  · cases h
def ent (p : Ob) : Lit × DataW Unit := (.string p.1.data.toList, .lit (.string p.2.data.toList))
def DM (M : List Ob) : DataW Unit := .map (M.map ent)
theorem DM_size (M : List Ob) : Maps.size (DM M) = M.length := by simp [DM, Maps.size]
theorem same_str (a b : ByteArray) : (Lit.string a.data.toList).sameKey (.string b.data.toList) = decide (a = b) := by
  show (a.data.toList == b.data.toList) = _
  rw [Bool.eq_iff_iff]
  simp only [beq_iff_eq, decide_eq_true_eq]
  exact ⟨ba_ext, fun h => by rw [h]⟩
theorem DM_del (M : List Ob) (n : ByteArray) : (DM M).del (.string n.data.toList) = DM (drop n M) := by
  show DataW.map (List.filter _ (M.map ent)) = DataW.map ((drop n M).map ent)
  congr 1
  unfold drop
  rw [List.filter_map]
  congr 1
  refine List.filter_congr fun p _ => ?_
  show (!(Lit.string p.1.data.toList).sameKey (.string n.data.toList)) = _
  rw [same_str]; simp
theorem bytesBefore_eq : ∀ (x y : List UInt8), Go.bytesBefore x y = decide (x < y)
  | [], [] => by simp [Go.bytesBefore]
  | _ :: _, [] => by simp [Go.bytesBefore]
  | [], _ :: _ => by simp [Go.bytesBefore]
  | a :: r, b :: s => by
    rw [Go.bytesBefore, bytesBefore_eq r s, Bool.eq_iff_iff]
    simp [List.cons_lt_cons_iff]
theorem before_str (a b : ByteArray) : (Lit.string a.data.toList).before (.string b.data.toList) = lt a b := bytesBefore_eq _ _
theorem insert_ins (o : Ob) : ∀ (M : List Ob), (∀ p ∈ M, p.1 ≠ o.1) → DataW.insert (ent o) (M.map ent) = (ins o M).map ent
  | [], _ => rfl
  | q :: r, h => by
    rw [List.map_cons, DataW.insert]
    have hq : q.1 ≠ o.1 := h q List.mem_cons_self
    have e : (ent o).1.before (ent q).1 = !lt q.1 o.1 := by
      show (Lit.string o.1.data.toList).before (.string q.1.data.toList) = _
      rw [before_str]
      cases h1 : lt q.1 o.1 with
      | true => rw [lt_asymm h1]; rfl
      | false =>
        cases h2 : lt o.1 q.1 with
        | true => rfl
        | false => exact absurd (lt_conn h1 h2) hq
    rw [e]
    unfold ins
    cases h1 : lt q.1 o.1 with
    | true => simp [insert_ins o r (fun p hp => h p (List.mem_cons_of_mem _ hp))]
    | false => simp
theorem DM_put (M : List Ob) (n d : ByteArray) : (DM M).put (.string n.data.toList) (.lit (.string d.data.toList)) = DM (put (n, d) M) := by
  have h := DM_del M n
  have e : (DM M).put (.string n.data.toList) (.lit (.string d.data.toList)) = .map (DataW.insert (ent (n, d)) (List.filter (fun p => !p.1.sameKey (.string n.data.toList)) (M.map ent))) := rfl
  have e2 : List.filter (fun p : Lit × DataW Unit => !p.1.sameKey (.string n.data.toList)) (M.map ent) = (drop n M).map ent := by
    have : DataW.map (List.filter (fun p : Lit × DataW Unit => !p.1.sameKey (.string n.data.toList)) (M.map ent)) = DataW.map ((drop n M).map ent) := h
    simpa using this
  rw [e, e2, insert_ins (n, d) (drop n M) fun p hp => (mem_drop.1 hp).2]
  rfl
/-- block m is a map of what is seen -/
def MapIs (w : World) (m : Nat) (M : List Ob) : Prop := w.ownsMap Tryz.prog 9 contR m M.length (DM M) ∧ Rising M ∧ ∀ p ∈ M, p.1.size ≤ maxLen
def MapV (w : World) (mo : Option Nat) (M : List Ob) : Prop := match mo with
  | none => M = []
  | some m => MapIs w m M
theorem key9 : Keyed Tryz.prog 9 := string_keyed Tryz.underlying9
theorem zero67 (w : World) : (zeroValue 120).run Tryz.prog w = .ok (cv none) w := by kernel_rfl
theorem keyOf9 {n : ByteArray} (hn : n.size ≤ maxLen) : keyOf Tryz.prog 9 (.string n) = some (.string n.data.toList) := by
  have h9 := Tryz.underlying9
  simp [keyOf, h9, mapKey, hn]
theorem MapIs.lt {w : World} {m : Nat} {M : List Ob} (h : MapIs w m M) : m < w.heap.size := h.1.lt
theorem MapIs.block {w w' : World} {m : Nat} {M : List Ob} (h : MapIs w m M) (hb : w'.heap[m]? = w.heap[m]?) : MapIs w' m M := by
  obtain ⟨⟨es, clock, h1, h2⟩, h3⟩ := h
  exact ⟨⟨es, clock, by rw [hb]; exact h1, h2⟩, h3⟩
theorem MapIs.below {w w' : World} {m : Nat} {M : List Ob} (h : MapIs w m M) (hb : Below w.heap.size w w') : MapIs w' m M := h.block (hb.block m h.lt)
theorem atKey_DM {M : List Ob} (n : ByteArray) (z : DataW Unit) : (DM M).atKey (.string n.data.toList) z = match look n M with | some d => .lit (.string d.data.toList) | none => z := by
  unfold DM DataW.atKey
  simp only []
  rw [List.find?_map]
  have e : ((fun p : Lit × DataW Unit => p.1.sameKey (.string n.data.toList)) ∘ ent) = fun p : Ob => decide (p.1 = n) := by
    funext p; exact same_str p.1 n
  rw [e]
  unfold look
  cases M.find? (fun p => decide (p.1 = n)) with
  | none => rfl
  | some p => rfl
theorem lit_inj {a b : ByteArray} (h : (DataW.lit (.string a.data.toList) : DataW Unit) = .lit (.string b.data.toList)) : a = b := by
  simp only [DataW.lit.injEq, Lit.string.injEq] at h
  exact ba_ext h
theorem MapIs.look {w : World} {m : Nat} {M : List Ob} (h : MapIs w m M) {n : ByteArray} (hn : n.size ≤ maxLen) (c : Bool) : (Instr.lookup 98 (.map (some m)) (.string n) c).run Tryz.prog w = .ok (if c then .tuple #[cv (look n M), .bool (look n M).isSome] else cv (look n M)) w := by
  obtain ⟨⟨es, clock, hb, F, hs, hD⟩, h2, _⟩ := h
  rcases fit_look c key9 Tryz.underlying98 (zero67 w) hb F (keyOf9 hn) with ⟨hrun, _, hat⟩ | ⟨e0, y, _, _, hrun, hRv, hat, _⟩
  · have h0 := hat .nil
    rw [← hD, atKey_DM] at h0
    cases hl : YtmpgfpmkmgebdaaGreatDoor.W.look n M with
    | none => rw [hrun]; cases c <;> rfl
    | some d => rw [hl] at h0; cases h0
  · have h0 := hat .nil
    obtain ⟨d0, e1, e2⟩ := contR_inv hRv
    rw [← hD, atKey_DM, e2] at h0
    cases hl : YtmpgfpmkmgebdaaGreatDoor.W.look n M with
    | none => rw [hl] at h0; cases h0
    | some d =>
      rw [hl] at h0
      have := lit_inj h0
      subst this
      rw [hrun, e1]; cases c <;> rfl
theorem MapV.look {w : World} {mo : Option Nat} {M : List Ob} (h : MapV w mo M) {n : ByteArray} (hn : n.size ≤ maxLen) (c : Bool) : (Instr.lookup 98 (.map mo) (.string n) c).run Tryz.prog w = .ok (if c then .tuple #[cv (look n M), .bool (look n M).isSome] else cv (look n M)) w := by
  cases mo with
  | none =>
    have : M = [] := h
    subst this
    exact look_nil c key9 Tryz.underlying98 (zero67 w) (keyOf9 hn)
  | some m => exact MapIs.look h hn c
theorem own_tight {w : World} {b n : Nat} {D : DataW Unit} (h : w.ownsMap Tryz.prog 9 contR b n D) : w.ownsMap Tryz.prog 9 contR b (Maps.size D) D := by
  obtain ⟨es, clock, h1, h2, h3, rfl⟩ := h
  exact ⟨es, clock, h1, h2, by simp [Maps.size, length_sorted], rfl⟩
theorem MapIs.put {w : World} {m : Nat} {M : List Ob} (h : MapIs w m M) (hM : M.length < maxLen) {n : ByteArray} (hn : n.size ≤ maxLen) (d : ByteArray) : ∃ w', (Instr.mapUpdate 98 (.map (some m)) (.string n) (cv (some d))).run Tryz.prog w = .ok () w' ∧ MapIs w' m (put (n, d) M) ∧ w.grownBy w' (some m) := by
  obtain ⟨w', hrun, r1, r2⟩ := h.1.update key9 Tryz.underlying98 hM (keyOf9 hn) (contR_some d)
  rw [DM_put] at r1
  have := own_tight r1
  rw [DM_size] at this
  refine ⟨w', hrun, ⟨this, rising_put h.2.1, fun p hp => ?_⟩, r2⟩
  rcases mem_put.1 hp with rfl | hp
  · exact hn
  · exact h.2.2 p hp.1
theorem MapV.del {w : World} {mo : Option Nat} {M : List Ob} (h : MapV w mo M) {n : ByteArray} (hn : n.size ≤ maxLen) (ty : TypeId) : ∃ w', (Builtin.delete_ #[98, 9] ty #[.map mo, .string n]).run Tryz.prog w = .ok (.tuple #[]) w' ∧ MapV w' mo (drop n M) ∧ w.grownBy w' mo := by
  cases mo with
  | none =>
    have : M = [] := h
    subst this
    exact ⟨w, drop_nil key9 Tryz.underlying98 (keyOf9 hn) ty, rfl, World.grownBy.refl _ _⟩
  | some m =>
    obtain ⟨w', hrun, r1, r2⟩ := h.1.drop key9 Tryz.underlying98 (keyOf9 hn) ty
    rw [DM_del] at r1
    have := own_tight r1
    rw [DM_size] at this
    exact ⟨w', hrun, ⟨this, rising_drop h.2.1, fun p hp => h.2.2 p (mem_drop.1 hp).1⟩, r2.grown⟩
theorem MapIs.made (w : World) : MapIs (w.alloc (.map #[] 0)) w.heap.size [] := ⟨World.ownsMap_made _ _ _ _, rising_nil, fun _ h => by cases h⟩
theorem MapV.rising {w : World} {mo : Option Nat} {M : List Ob} (h : MapV w mo M) : Rising M := by
  cases mo with
  | none => rw [show M = [] from h]; exact rising_nil
  | some m => exact h.2.1
theorem MapV.block {w w' : World} {mo : Option Nat} {M : List Ob} (h : MapV w mo M) (hb : ∀ m, mo = some m → m < w.heap.size → w'.heap[m]? = w.heap[m]?) : MapV w' mo M := by
  cases mo with
  | none => exact h
  | some m => exact MapIs.block h (hb m rfl (MapIs.lt h))
/-- a write: its name, what it took the place of, what it makes -/
structure Wr where
  name : ByteArray
  was : Option ByteArray
  now : Option ByteArray
instance : DecidableEq Wr := fun a b => decidable_of_iff (a.name = b.name ∧ a.was = b.was ∧ a.now = b.now) (by cases a; cases b; simp)
def wcells (x : Wr) : List Value := [.string x.name, .bool x.was.isSome, .string (x.was.getD ⟨#[]⟩), .bool x.now.isSome, .string (x.now.getD ⟨#[]⟩)]
/-- a store -/
structure St where
  seen : List Ob
  writes : List Wr
  down : Bool
  refuse : Option Nat
  room : Option Nat
  live : Bool
instance : DecidableEq St := fun a b => decidable_of_iff (a.seen = b.seen ∧ a.writes = b.writes ∧ a.down = b.down ∧ a.refuse = b.refuse ∧ a.room = b.room ∧ a.live = b.live) (by cases a; cases b; simp)
def scells (mo : Option Nat) (wv : Value) (s : St) : Array Value := #[.map mo, wv, .bool s.down, .bool s.refuse.isSome, .int .i64 ((s.refuse.getD 0 : Nat) : Int), .bool s.room.isSome, .int .i64 ((s.room.getD 0 : Nat) : Int)]
/-- block b is a store; all that is its own lies in S -/
def IsSt (w : World) (S : Nat → Prop) (b : Nat) (s : St) : Prop :=
  ∃ mo wv, Has w b (scells mo wv s) 103 ∧ MapV w mo s.seen ∧ w.ownsRow 0 122 5 wv s.writes.length (s.writes.flatMap wcells) ∧ S b ∧ (∀ m, mo = some m → S m) ∧ (∀ g, wv.ownBlock = some g → S g) ∧ (∀ i, S i → i < w.heap.size) ∧ mo.isSome = s.live
/-- behind a call on the store b that owned S in w: it is s now -/
def After (w w' : World) (S : Nat → Prop) (b : Nat) (s : St) : Prop := ∃ S', IsSt w' S' b s ∧ (∀ i, S' i → S i ∨ w.heap.size ≤ i) ∧ Only S w w'
theorem mapIs_ne {w : World} {m b : Nat} {M : List Ob} {cs : Array Value} {t : TypeId} (h : MapIs w m M) (hb : Has w b cs t) : m ≠ b := by
  rintro rfl
  obtain ⟨⟨es, clock, h1, _⟩, _⟩ := h
  unfold Has at hb
  rw [h1] at hb; cases hb
theorem MapV.setb {w : World} {mo : Option Nat} {M : List Ob} (h : MapV w mo M) {b : Nat} {cs : Array Value} {t : TypeId} (hb : Has w b cs t) (i : Nat) (v : Value) : MapV (w.setCell ⟨b, i, none⟩ v) mo M := by
  cases mo with
  | none => exact h
  | some m => exact MapIs.block h (Below.heap_setCell _ _ _ _ (mapIs_ne h hb))
theorem row_ne {w : World} {base k n : Nat} {e t : TypeId} {v : Value} {xs : List Value} (h : w.ownsRow base e k v n xs) {b : Nat} {cs : Array Value} (hb : Has w b cs t) (hne : t ≠ e) : ∀ g, v.ownBlock = some g → g ≠ b := by
  rintro g hg rfl
  rcases h.2 with ⟨rfl, _⟩ | ⟨g', cap, cur, rfl, _, h3, _⟩
  · simp [Value.ownBlock] at hg
  · simp [Value.ownBlock] at hg
    subst hg
    unfold Has at hb
    rw [h3] at hb
    simp only [Option.some.injEq, Obj.cells.injEq] at hb
    exact hne hb.2.1.symm
theorem row_block {w w' : World} {base k n : Nat} {e : TypeId} {v : Value} {xs : List Value} (h : w.ownsRow base e k v n xs) (hb : ∀ g, v.ownBlock = some g → g < w.heap.size → w'.heap[g]? = w.heap[g]?) : w'.ownsRow base e k v n xs := by
  refine ⟨h.1, ?_⟩
  rcases h.2 with h2 | ⟨g, cap, cur, rfl, h2, h3, h4⟩
  · exact .inl h2
  · exact .inr ⟨g, cap, cur, rfl, h2, by rw [hb g rfl (Array.getElem?_eq_some_iff.1 h3).1]; exact h3, h4⟩
theorem row_setb {w : World} {base k n : Nat} {e t : TypeId} {v : Value} {xs : List Value} (h : w.ownsRow base e k v n xs) {b : Nat} {cs : Array Value} (hb : Has w b cs t) (hne : t ≠ e) (i : Nat) (u : Value) : (w.setCell ⟨b, i, none⟩ u).ownsRow base e k v n xs :=
  row_block h fun g hg _ => Below.heap_setCell _ _ _ _ (row_ne h hb hne g hg)
theorem IsSt.lt {w : World} {S : Nat → Prop} {b : Nat} {s : St} (h : IsSt w S b s) : b < w.heap.size := by
  obtain ⟨_, _, h1, _⟩ := h; exact h1.lt
theorem IsSt.only {w w' : World} {S S' : Nat → Prop} {b : Nat} {s : St} (h : IsSt w S b s) (ho : Only S' w w') (hn : ∀ i, S i → ¬ S' i) : IsSt w' S b s := by
  obtain ⟨mo, wv, h1, h2, h3, h4, h5, h6, h7, h8⟩ := h
  exact ⟨mo, wv, ho.has h1 (hn _ h4), h2.block fun m hm hl => ho.block m hl (hn _ (h5 m hm)), row_block h3 fun g hg hl => ho.block g hl (hn _ (h6 g hg)), h4, h5, h6, fun i hi => Nat.lt_of_lt_of_le (h7 i hi) ho.size, h8⟩
theorem IsSt.below {w w' : World} {S : Nat → Prop} {b : Nat} {s : St} (h : IsSt w S b s) (hb : Below w.heap.size w w') : IsSt w' S b s := h.only (S' := fun _ => False) (Only.of_below hb) fun _ _ h => h
theorem IsSt.drew {w : World} {S : Nat → Prop} {b : Nat} {s : St} (h : IsSt w S b s) : IsSt w.drew S b s := h
/-- its cells, one by one -/
theorem scells_cell {w : World} {b : Nat} {mo : Option Nat} {wv : Value} {s : St} (h : Has w b (scells mo wv s) 103) :
    w.cell? ⟨b, 0, none⟩ = some (.map mo) ∧ w.cell? ⟨b, 1, none⟩ = some wv ∧ w.cell? ⟨b, 2, none⟩ = some (.bool s.down) ∧ w.cell? ⟨b, 3, none⟩ = some (.bool s.refuse.isSome) ∧ w.cell? ⟨b, 4, none⟩ = some (.int .i64 ((s.refuse.getD 0 : Nat) : Int)) ∧ w.cell? ⟨b, 5, none⟩ = some (.bool s.room.isSome) ∧ w.cell? ⟨b, 6, none⟩ = some (.int .i64 ((s.room.getD 0 : Nat) : Int)) :=
  ⟨h.cell 0, h.cell 1, h.cell 2, h.cell 3, h.cell 4, h.cell 5, h.cell 6⟩
theorem After.refl {w : World} {S : Nat → Prop} {b : Nat} {s : St} (h : IsSt w S b s) : After w w S b s := ⟨S, h, fun _ h => .inl h, Only.refl _ _⟩
theorem After.of_below {w w' : World} {S : Nat → Prop} {b : Nat} {s : St} (h : IsSt w S b s) (hb : Below w.heap.size w w') : After w w' S b s := ⟨S, h.below hb, fun _ h => .inl h, Only.of_below hb⟩
/-- first memory alone, then a change -/
theorem After.front {w w1 w2 : World} {S : Nat → Prop} {b : Nat} {s : St} (hb : Below w.heap.size w w1) (h : After w1 w2 S b s) : After w w2 S b s := by
  obtain ⟨S', h1, h2, h3⟩ := h
  refine ⟨S', h1, fun i hi => ?_, (Only.of_below hb).trans h3 fun _ h => .inl h⟩
  rcases h2 i hi with h | h
  · exact .inl h
  · exact .inr (Nat.le_trans hb.size h)
theorem After.next {w w1 w2 : World} {S : Nat → Prop} {b : Nat} {s : St} (h : After w w1 S b s) (hb : Below w1.heap.size w1 w2) : After w w2 S b s := by
  obtain ⟨S', h1, h2, h3⟩ := h
  exact ⟨S', h1.below hb, h2, h3.next hb⟩
/-- two changes -/
theorem After.trans {w w1 w2 : World} {S S1 : Nat → Prop} {b : Nat} {s2 : St} (hs : ∀ i, S1 i → S i ∨ w.heap.size ≤ i) (ho : Only S w w1) (h : After w1 w2 S1 b s2) : After w w2 S b s2 := by
  obtain ⟨S', h1, h2, h3⟩ := h
  refine ⟨S', h1, fun i hi => ?_, ho.trans h3 hs⟩
  rcases h2 i hi with h | h
  · exact hs i h
  · exact .inr (Nat.le_trans ho.size h)
theorem After.then {w w1 w2 : World} {S : Nat → Prop} {b : Nat} {s1 s2 : St} (h : After w w1 S b s1) (k : ∀ S', IsSt w1 S' b s1 → After w1 w2 S' b s2) : After w w2 S b s2 := by
  obtain ⟨S', h1, h2, h3⟩ := h
  exact After.trans h2 h3 (k S' h1)
/-- one cell of the store's own is written -/
theorem IsSt.turn {w : World} {S : Nat → Prop} {b : Nat} {s : St} (h : IsSt w S b s) (i : Nat) (v : Value) (s' : St) (he : s'.seen = s.seen ∧ s'.writes = s.writes ∧ s'.live = s.live) (hc : ∀ mo wv, (scells mo wv s).setIfInBounds i v = scells mo wv s') : IsSt (w.setCell ⟨b, i, none⟩ v) S b s' := by
  obtain ⟨mo, wv, h1, h2, h3, h4, h5, h6, h7, h8⟩ := h
  refine ⟨mo, wv, ?_, by rw [he.1]; exact h2.setb h1 i v, by rw [he.2.1]; exact row_setb h3 h1 (by decide) i v, h4, h5, h6, fun j hj => by have := h7 j hj; simpa [World.setCell] using this, by rw [he.2.2]; exact h8⟩
  have := h1.set i v
  rw [hc mo wv] at this; exact this
theorem After.turn {w : World} {S : Nat → Prop} {b : Nat} {s : St} (h : IsSt w S b s) (i : Nat) (v : Value) (s' : St) (he : s'.seen = s.seen ∧ s'.writes = s.writes ∧ s'.live = s.live) (hc : ∀ mo wv, (scells mo wv s).setIfInBounds i v = scells mo wv s') : After w (w.setCell ⟨b, i, none⟩ v) S b s' :=
  ⟨S, h.turn i v s' he hc, fun _ h => .inl h, (Only.refl _ _).set (.inl (by obtain ⟨_, _, _, _, _, h4, _⟩ := h; exact h4)) v⟩
/-- the writes are forgotten -/
theorem After.settle {w : World} {S : Nat → Prop} {b : Nat} {s : St} (h : IsSt w S b s) : After w (w.setCell ⟨b, 1, none⟩ (.slice none 0 0)) S b { s with writes := [] } := by
  obtain ⟨mo, wv, h1, h2, h3, h4, h5, h6, h7, h8⟩ := h
  refine ⟨S, ⟨mo, .slice none 0 0, ?_, h2.setb h1 _ _, World.ownsRow_nil _ _ _ _, h4, h5, fun g hg => by simp [Value.ownBlock] at hg, fun j hj => by have := h7 j hj; simpa [World.setCell] using this, h8⟩, fun _ h => .inl h, (Only.refl _ _).set (.inl h4) _⟩
  exact h1.set 1 _
/-- another map -/
theorem After.setMap {w : World} {S : Nat → Prop} {b : Nat} {s : St} (h : IsSt w S b s) (mo : Option Nat) (M : List Ob) (hM : MapV w mo M) (hS : ∀ m, mo = some m → m < w.heap.size ∧ (S m ∨ False)) : After w (w.setCell ⟨b, 0, none⟩ (.map mo)) S b { s with seen := M, live := mo.isSome } := by
  obtain ⟨mo0, wv, h1, h2, h3, h4, h5, h6, h7, h8⟩ := h
  refine ⟨S, ⟨mo, wv, ?_, hM.setb h1 _ _, row_setb h3 h1 (by decide) _ _, h4, fun m hm => ?_, h6, fun j hj => by have := h7 j hj; simpa [World.setCell] using this, rfl⟩, fun _ h => .inl h, (Only.refl _ _).set (.inl h4) _⟩
  · exact h1.set 0 _
  · rcases (hS m hm).2 with h | h
    · exact h
    · exact h.elim
end Go.Proofs.YtmpgfpmkmgebdaaGreatDoor.W
