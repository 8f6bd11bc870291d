/- The contracts of the document's digits, products and comparisons. -/
import Derived.Test.YteapbbaollmniaaGreatDoorHNum
namespace Go.Proofs.YteapbbaollmniaaGreatDoor.H
open Go.RowKit
def U64s (b : List Nat) : Array Value:=(b.map fun x : Nat=>Value.int .u64 (x : Int)).toArray
theorem U64s_size (b : List Nat) : (U64s b).size = b.length:=by simp [U64s]
theorem U64s_get (b : List Nat) (i : Nat) (h : i < b.length) : (U64s b)[i]? = some (.int .u64 ((b.getD i 0 : Nat) : Int)):=by
 simp [U64s,List.getD_eq_getElem?_getD,List.getElem?_eq_getElem h]
theorem U64s_set (b : List Nat) (i x : Nat) : (U64s b).setIfInBounds i (.int .u64 (x : Int)) = U64s (b.set i x):=by
 simp [U64s,List.map_set]
/-- a list that lies in a block from its first cell on -/
def Lies (w : World) (v : Value) (cs : Array Value) (t : TypeId) : Prop:=∃ g cap,v = .slice (some ⟨g,0,none⟩) cs.size cap /\ Has w g cs t
theorem Lies.below {w w' : World} {v : Value} {cs : Array Value} {t : TypeId} (h : Lies w v cs t) (hb : Below w.heap.size w w') : Lies w' v cs t:=by
 obtain ⟨g,cap,h1,h2⟩:=h
 exact ⟨g,cap,h1,h2.below hb h2.lt⟩
theorem wrap_u64_nat (n : Nat) : IntKind.u64.wrap (n : Int) = ((n % 18446744073709551616 : Nat) : Int):=by
 rw [IntKind.wrap_u64]; omega
theorem vEq (x y z c : Nat) : IntKind.u64.wrap (IntKind.u64.wrap ((x : Int) + IntKind.u64.wrap ((y : Int) * (z : Int))) + (c : Int)) = ((((x + y * z % 18446744073709551616) % 18446744073709551616 + c) % 18446744073709551616 : Nat) : Int):=by
 rw [<- Int.natCast_mul,wrap_u64_nat,<- Int.natCast_add,wrap_u64_nat,<- Int.natCast_add,wrap_u64_nat]
theorem tmodN (n : Nat) : ((n : Nat) : Int).tmod 65536 = ((n % 65536 : Nat) : Int):=by
 rw [Int.tmod_eq_emod_of_nonneg (by omega)]; omega
theorem tdivN (n : Nat) (h : n < 18446744073709551616) : IntKind.u64.wrap (((n : Nat) : Int).tdiv 65536) = ((n / 65536 : Nat) : Int):=by
 rw [Int.tdiv_eq_ediv_of_nonneg (by omega),IntKind.wrap_u64]; omega
theorem Has.drews {w : World} {b : Nat} {cs : Array Value} {t : TypeId} (h : Has w b cs t) (n : Nat) : Has (w.drewN n) b cs t:=h
set_option maxRecDepth 20000 in
theorem digits_any (n : Nat) (hn : n < 18446744073709551616) (w : World) :
  Calls Tryz.prog 162 #[.int .u64 (n : Int)] w fun e w'=>∃ v,e = .returned v /\ Lies w' v (U64s (Ref.dg n)) 192 /\ Below w.heap.size w w':=by
 go_enter Tryz.func162,Tryz.ntmps162
 go_wp2_with fail
 go_ret
 refine ⟨_,rfl,⟨_,4,rfl,?_⟩,(Below.refl _ _).alloc (Nat.le_refl _) _⟩
 have e : U64s (Ref.dg n) = #[Value.int .u64 ((n : Int) % 65536),.int .u64 ((n : Int) / 65536 % 65536),.int .u64 ((n : Int) / 65536 / 65536 % 65536),.int .u64 ((n : Int) / 65536 / 65536 / 65536)]:=by simp [U64s,Ref.dg]
 rw [e]
 exact Has.new _ _ _ _ rfl
theorem makes_u64 (n : Nat) (hn : n <= 1000000) (w : World) : (Instr.makeSlice 241 (.int .i64 (n : Int)) (.int .i64 (n : Int))).run Tryz.prog w = .ok (.slice (some ⟨w.heap.size,0,none⟩) n n) (w.alloc (.cells (U64s (List.replicate n 0)) 192)):=by
 have hinfo : (Tryz.prog.info? 192).map (fun i=>(i.zero,i.size,i.bytes)) = some (some (.int .u64 0),1,8):=by kernel_rfl
 cases hi : Tryz.prog.info? 192 with
 | none=>rw [hi] at hinfo; simp at hinfo
 | some i =>
  rw [hi] at hinfo
  simp only [Option.map_some,Option.some.injEq,Prod.mk.injEq] at hinfo
  obtain ⟨h1,h2,h3⟩:=hinfo
  rw [run_make w 241 192 i (.int .u64 0) Tryz.underlying241 hi h1 .i64 .i64 (n : Int) (n : Int) (by omega) (Int.le_refl _) (by rw [h3]; omega) (by omega)]
  have e : madeCells (Value.int .u64 0).cells (n * 1) = U64s (List.replicate n 0):=by
   apply Array.toList_inj.1
   have hz : (Value.int .u64 0).cells = #[.int .u64 0]:=rfl
   rw [hz,Nat.mul_one]
   apply List.ext_getElem
   ·simp [madeCells,U64s]
   ·intro k h1 h2
    simp [madeCells,U64s,Nat.mod_one]
  rw [h2,Int.toNat_natCast,e]
set_option maxRecDepth 20000 in
set_option maxHeartbeats 1000000 in
theorem times_any (a b : List Nat) (ha : a.length <= 100) (hb : b.length <= 100) (va vb : Value) (w : World) (la : Lies w va (U64s a) 192) (lb : Lies w vb (U64s b) 192) :
  Calls Tryz.prog 163 #[va,vb] w fun e w'=>∃ v,e = .returned v /\ Lies w' v (U64s (Ref.tms a b)) 192 /\ Below w.heap.size w w':=by
 obtain ⟨ga,ca,rfl,hA⟩:=la
 obtain ⟨gb,cb,rfl,hB⟩:=lb
 have hmk : ∀ w,(Instr.makeSlice 241 (.int .i64 ((a.length : Int) + (b.length : Int))) (.int .i64 ((a.length : Int) + (b.length : Int)))).run Tryz.prog w = .ok (.slice (some ⟨w.heap.size,0,none⟩) (a.length + b.length) (a.length + b.length)) (w.alloc (.cells (U64s (List.replicate (a.length + b.length) 0)) 192)):=fun w=>by
  rw [<- Int.natCast_add]; exact makes_u64 (a.length + b.length) (by omega) w
 have za:=U64s_size a
 have zb:=U64s_size b
 rw [za,zb]
 clear za zb
 go_enter Tryz.func163,Tryz.ntmps163
 go_wp2_with fail
 go_loopw [6] (fun vi wr=>∃ i : Nat,i <= a.length /\ vi = .int .i64 (i : Int) /\ Has wr w.heap.size (U64s (Ref.outer a b i)) 192 /\ Below w.heap.size w wr) (fun vi _=>a.length - (intOf vi).toNat)
 case atStart=>exact ⟨0,by omega,rfl,Has.new _ _ _ _ rfl,(Below.refl _ _).alloc (Nat.le_refl _) _⟩
 case round =>
  clear hmk
  obtain ⟨i,hi,rfl,h1,b1⟩:=hrel
  by_cases hlt : i < a.length
  ·have i0 : (i : Int) < (a.length : Int):=by omega
   have hol:=Ref.outer_length a b i
   have HO : Hid (Ref.outer a b (i + 1) = (Ref.inn (a.getD i 0) b i (Ref.outer a b i) b.length).1.set (i + b.length) (((Ref.inn (a.getD i 0) b i (Ref.outer a b i) b.length).1.getD (i + b.length) 0 + (Ref.inn (a.getD i 0) b i (Ref.outer a b i) b.length).2) % 18446744073709551616)):=rfl
   have HI : Hid (∀ k,Ref.inn (a.getD i 0) b i (Ref.outer a b i) (k + 1) = ((Ref.inn (a.getD i 0) b i (Ref.outer a b i) k).1.set (i + k) ((((Ref.inn (a.getD i 0) b i (Ref.outer a b i) k).1.getD (i + k) 0 + a.getD i 0 * b.getD k 0 % 18446744073709551616) % 18446744073709551616 + (Ref.inn (a.getD i 0) b i (Ref.outer a b i) k).2) % 18446744073709551616 % 65536),(((Ref.inn (a.getD i 0) b i (Ref.outer a b i) k).1.getD (i + k) 0 + a.getD i 0 * b.getD k 0 % 18446744073709551616) % 18446744073709551616 + (Ref.inn (a.getD i 0) b i (Ref.outer a b i) k).2) % 18446744073709551616 / 65536)):=fun k=>rfl
   have HN : Hid (Ref.inn (a.getD i 0) b i (Ref.outer a b i) 0 = (Ref.outer a b i,0)):=rfl
   have HL : Hid (∀ k,(Ref.inn (a.getD i 0) b i (Ref.outer a b i) k).1.length = a.length + b.length):=fun k=>by rw [Ref.inn_length,hol]
   generalize hq : Ref.inn (a.getD i 0) b i (Ref.outer a b i) = q at *
   have hq' : Hid _:=hq
   clear hq
   go_wp2_with fail
   go_loopw [7,8] (fun vc vk wr'=>∃ k : Nat,k <= b.length /\ vk = .int .i64 (k : Int) /\ vc = .int .u64 (((q k).2 : Nat) : Int) /\ Has wr' w.heap.size (U64s (q k).1) 192 /\ Below w.heap.size w wr') (fun _ vk _=>b.length - (intOf vk).toNat)
   case atStart=>exact ⟨0,by omega,rfl,by rw [HN.out]; rfl,by rw [HN.out]; exact h1,b1⟩
   case round =>
    clear h1 b1
    obtain ⟨k,hk,rfl,rfl,h1,b1⟩:=hrel
    have hql:=HL.out k
    by_cases hkt : k < b.length
    ·have k0 : (k : Int) < (b.length : Int):=by omega
     have s0 : (i : Int) + (k : Int) < (a.length : Int) + (b.length : Int):=by omega
     have s1 : (0 : Int) <= (i : Int) + (k : Int):=by omega
     have s2 : ((i : Int) + (k : Int)).toNat = i + k:=by omega
     have cO:=(h1.cell (i + k)).trans (U64s_get _ _ (by rw [hql]; omega))
     have fO:=h1.frozen (i + k)
     have cA:=((hA.below b1 hA.lt).cell i).trans (U64s_get _ _ hlt)
     have cB:=((hB.below b1 hB.lt).cell k).trans (U64s_get _ _ hkt)
     have HK:=HI.out k
     generalize (q k).1.getD (i + k) 0 = x at *
     generalize a.getD i 0 = y at *
     generalize b.getD k 0 = z at *
     generalize hc : (q k).2 = c at *
     go_wp2_with fail
     go_quiet (fail)
     go_wp2_with fail
     have hV:=vEq x y z c
     have hVl : ((x + y * z % 18446744073709551616) % 18446744073709551616 + c) % 18446744073709551616 < 18446744073709551616:=Nat.mod_lt _ (by decide)
     generalize ((x + y * z % 18446744073709551616) % 18446744073709551616 + c) % 18446744073709551616 = V at *
     rw [hV,tmodN,tdivN V hVl]
     have h2:=(h1.drews nq).set (i + k) (.int .u64 ((V % 65536 : Nat) : Int))
     rw [U64s_set] at h2
     exact ⟨⟨k + 1,by omega,rfl,by rw [HK],by rw [HK]; exact h2,(below_draws b1 nq).setCell (Nat.le_refl _) _⟩,by simp [intOf]; omega⟩
    ·obtain rfl : k = b.length:=by omega
     have s0 : (i : Int) + (b.length : Int) < (a.length : Int) + (b.length : Int):=by omega
     have s1 : (0 : Int) <= (i : Int) + (b.length : Int):=by omega
     have s2 : ((i : Int) + (b.length : Int)).toNat = i + b.length:=by omega
     have cO:=(h1.cell (i + b.length)).trans (U64s_get _ _ (by rw [hql]; omega))
     have fO:=h1.frozen (i + b.length)
     have HK:=HO.out
     clear HI HN HL HO
     generalize (q b.length).1.getD (i + b.length) 0 = x at *
     generalize (q b.length).2 = c at *
     have hV : Hid (IntKind.u64.wrap ((x : Int) + (c : Int)) = (((x + c) % 18446744073709551616 : Nat) : Int)):=by unfold Hid; rw [<- Int.natCast_add,wrap_u64_nat]
     have h2:=h1.set (i + b.length) (.int .u64 (((x + c) % 18446744073709551616 : Nat) : Int))
     rw [U64s_set,<- HK] at h2
     have HF : Hid _:=h2
     clear h2 HK
     go_wp2_with fail
     rw [hV.out]
     exact ⟨⟨i + 1,by omega,rfl,HF.out,b1.setCell (Nat.le_refl _) _⟩,by simp [intOf]; omega⟩
  ·obtain rfl : i = a.length:=by omega
   go_wp2_with fail
   go_ret
   exact ⟨_,rfl,⟨_,_,by rw [U64s_size,Ref.tms_length]; rfl,h1⟩,b1⟩
end Go.Proofs.YteapbbaollmniaaGreatDoor.H
/- The document's roots are the tables' numbers: part RootsA. No program in it. -/
namespace Go.Proofs.YteapbbaollmniaaGreatDoor.H
namespace Ref
theorem b2_2 : bitsOf 2 2 = 1779033703:=by decide +kernel
theorem b2_3 : bitsOf 3 2 = 3144134277:=by decide +kernel
theorem b2_5 : bitsOf 5 2 = 1013904242:=by decide +kernel
theorem b2_7 : bitsOf 7 2 = 2773480762:=by decide +kernel
theorem b2_11 : bitsOf 11 2 = 1359893119:=by decide +kernel
theorem b2_13 : bitsOf 13 2 = 2600822924:=by decide +kernel
theorem b2_17 : bitsOf 17 2 = 528734635:=by decide +kernel
theorem b2_19 : bitsOf 19 2 = 1541459225:=by decide +kernel
theorem b3_2 : bitsOf 2 3 = 1116352408:=by decide +kernel
theorem b3_3 : bitsOf 3 3 = 1899447441:=by decide +kernel
theorem b3_5 : bitsOf 5 3 = 3049323471:=by decide +kernel
theorem b3_7 : bitsOf 7 3 = 3921009573:=by decide +kernel
theorem b3_11 : bitsOf 11 3 = 961987163:=by decide +kernel
theorem b3_13 : bitsOf 13 3 = 1508970993:=by decide +kernel
theorem b3_17 : bitsOf 17 3 = 2453635748:=by decide +kernel
theorem b3_19 : bitsOf 19 3 = 2870763221:=by decide +kernel
theorem b3_23 : bitsOf 23 3 = 3624381080:=by decide +kernel
theorem b3_29 : bitsOf 29 3 = 310598401:=by decide +kernel
theorem b3_31 : bitsOf 31 3 = 607225278:=by decide +kernel
theorem b3_37 : bitsOf 37 3 = 1426881987:=by decide +kernel
theorem b3_41 : bitsOf 41 3 = 1925078388:=by decide +kernel
theorem b3_43 : bitsOf 43 3 = 2162078206:=by decide +kernel
theorem b3_47 : bitsOf 47 3 = 2614888103:=by decide +kernel
theorem b3_53 : bitsOf 53 3 = 3248222580:=by decide +kernel
end Ref
end Go.Proofs.YteapbbaollmniaaGreatDoor.H
/- The document's roots are the tables' numbers: part RootsB. No program in it. -/
namespace Go.Proofs.YteapbbaollmniaaGreatDoor.H
namespace Ref
theorem b3_59 : bitsOf 59 3 = 3835390401:=by decide +kernel
theorem b3_61 : bitsOf 61 3 = 4022224774:=by decide +kernel
theorem b3_67 : bitsOf 67 3 = 264347078:=by decide +kernel
theorem b3_71 : bitsOf 71 3 = 604807628:=by decide +kernel
theorem b3_73 : bitsOf 73 3 = 770255983:=by decide +kernel
theorem b3_79 : bitsOf 79 3 = 1249150122:=by decide +kernel
theorem b3_83 : bitsOf 83 3 = 1555081692:=by decide +kernel
theorem b3_89 : bitsOf 89 3 = 1996064986:=by decide +kernel
theorem b3_97 : bitsOf 97 3 = 2554220882:=by decide +kernel
theorem b3_101 : bitsOf 101 3 = 2821834349:=by decide +kernel
theorem b3_103 : bitsOf 103 3 = 2952996808:=by decide +kernel
theorem b3_107 : bitsOf 107 3 = 3210313671:=by decide +kernel
theorem b3_109 : bitsOf 109 3 = 3336571891:=by decide +kernel
theorem b3_113 : bitsOf 113 3 = 3584528711:=by decide +kernel
theorem b3_127 : bitsOf 127 3 = 113926993:=by decide +kernel
theorem b3_131 : bitsOf 131 3 = 338241895:=by decide +kernel
theorem b3_137 : bitsOf 137 3 = 666307205:=by decide +kernel
theorem b3_139 : bitsOf 139 3 = 773529912:=by decide +kernel
theorem b3_149 : bitsOf 149 3 = 1294757372:=by decide +kernel
theorem b3_151 : bitsOf 151 3 = 1396182291:=by decide +kernel
theorem b3_157 : bitsOf 157 3 = 1695183700:=by decide +kernel
theorem b3_163 : bitsOf 163 3 = 1986661051:=by decide +kernel
theorem b3_167 : bitsOf 167 3 = 2177026350:=by decide +kernel
theorem b3_173 : bitsOf 173 3 = 2456956037:=by decide +kernel
end Ref
end Go.Proofs.YteapbbaollmniaaGreatDoor.H
/- The document's roots are the tables' numbers: part RootsC. No program in it. -/
namespace Go.Proofs.YteapbbaollmniaaGreatDoor.H
namespace Ref
theorem b3_179 : bitsOf 179 3 = 2730485921:=by decide +kernel
theorem b3_181 : bitsOf 181 3 = 2820302411:=by decide +kernel
theorem b3_191 : bitsOf 191 3 = 3259730800:=by decide +kernel
theorem b3_193 : bitsOf 193 3 = 3345764771:=by decide +kernel
theorem b3_197 : bitsOf 197 3 = 3516065817:=by decide +kernel
theorem b3_199 : bitsOf 199 3 = 3600352804:=by decide +kernel
theorem b3_211 : bitsOf 211 3 = 4094571909:=by decide +kernel
theorem b3_223 : bitsOf 223 3 = 275423344:=by decide +kernel
theorem b3_227 : bitsOf 227 3 = 430227734:=by decide +kernel
theorem b3_229 : bitsOf 229 3 = 506948616:=by decide +kernel
theorem b3_233 : bitsOf 233 3 = 659060556:=by decide +kernel
theorem b3_239 : bitsOf 239 3 = 883997877:=by decide +kernel
theorem b3_241 : bitsOf 241 3 = 958139571:=by decide +kernel
theorem b3_251 : bitsOf 251 3 = 1322822218:=by decide +kernel
theorem b3_257 : bitsOf 257 3 = 1537002063:=by decide +kernel
theorem b3_263 : bitsOf 263 3 = 1747873779:=by decide +kernel
theorem b3_269 : bitsOf 269 3 = 1955562222:=by decide +kernel
theorem b3_271 : bitsOf 271 3 = 2024104815:=by decide +kernel
theorem b3_277 : bitsOf 277 3 = 2227730452:=by decide +kernel
theorem b3_281 : bitsOf 281 3 = 2361852424:=by decide +kernel
theorem b3_283 : bitsOf 283 3 = 2428436474:=by decide +kernel
theorem b3_293 : bitsOf 293 3 = 2756734187:=by decide +kernel
theorem b3_307 : bitsOf 307 3 = 3204031479:=by decide +kernel
theorem b3_311 : bitsOf 311 3 = 3329325298:=by decide +kernel
end Ref
end Go.Proofs.YteapbbaollmniaaGreatDoor.H
/- The document's roots are the tables' numbers. No program in it. -/
namespace Go.Proofs.YteapbbaollmniaaGreatDoor.H
namespace Ref
def initL : List Nat:=[1779033703,3144134277,1013904242,2773480762,1359893119,2600822924,528734635,1541459225]
theorem sq_all : ∀ i,i < 8 -> bitsOf (primes.getD i 0) 2 = initL.getD i 0
 | 0,_=>b2_2
 | 1,_=>b2_3
 | 2,_=>b2_5
 | 3,_=>b2_7
 | 4,_=>b2_11
 | 5,_=>b2_13
 | 6,_=>b2_17
 | 7,_=>b2_19
 | n + 8,h=>absurd h (by omega)
theorem cu_all : ∀ i,i < 64 -> bitsOf (primes.getD i 0) 3 = Sha.cube.getD i 0
 | 0,_=>b3_2
 | 1,_=>b3_3
 | 2,_=>b3_5
 | 3,_=>b3_7
 | 4,_=>b3_11
 | 5,_=>b3_13
 | 6,_=>b3_17
 | 7,_=>b3_19
 | 8,_=>b3_23
 | 9,_=>b3_29
 | 10,_=>b3_31
 | 11,_=>b3_37
 | 12,_=>b3_41
 | 13,_=>b3_43
 | 14,_=>b3_47
 | 15,_=>b3_53
 | 16,_=>b3_59
 | 17,_=>b3_61
 | 18,_=>b3_67
 | 19,_=>b3_71
 | 20,_=>b3_73
 | 21,_=>b3_79
 | 22,_=>b3_83
 | 23,_=>b3_89
 | 24,_=>b3_97
 | 25,_=>b3_101
 | 26,_=>b3_103
 | 27,_=>b3_107
 | 28,_=>b3_109
 | 29,_=>b3_113
 | 30,_=>b3_127
 | 31,_=>b3_131
 | 32,_=>b3_137
 | 33,_=>b3_139
 | 34,_=>b3_149
 | 35,_=>b3_151
 | 36,_=>b3_157
 | 37,_=>b3_163
 | 38,_=>b3_167
 | 39,_=>b3_173
 | 40,_=>b3_179
 | 41,_=>b3_181
 | 42,_=>b3_191
 | 43,_=>b3_193
 | 44,_=>b3_197
 | 45,_=>b3_199
 | 46,_=>b3_211
 | 47,_=>b3_223
 | 48,_=>b3_227
 | 49,_=>b3_229
 | 50,_=>b3_233
 | 51,_=>b3_239
 | 52,_=>b3_241
 | 53,_=>b3_251
 | 54,_=>b3_257
 | 55,_=>b3_263
 | 56,_=>b3_269
 | 57,_=>b3_271
 | 58,_=>b3_277
 | 59,_=>b3_281
 | 60,_=>b3_283
 | 61,_=>b3_293
 | 62,_=>b3_307
 | 63,_=>b3_311
 | n + 64,h=>absurd h (by omega)
end Ref
end Go.Proofs.YteapbbaollmniaaGreatDoor.H
/- The contracts of the document's comparison and roots. -/
namespace Go.Proofs.YteapbbaollmniaaGreatDoor.H
open Go.RowKit
theorem want_in (n nt m : Nat) (h1 : nt <= m) (h2 : m < nt + 4) : Ref.want n nt m = (Ref.dg n).getD (m - nt) 0:=by unfold Ref.want; rw [if_pos ⟨h1,h2⟩]
theorem want_out (n nt m : Nat) (h : ¬ (nt <= m /\ m < nt + 4)) : Ref.want n nt m = 0:=by unfold Ref.want; rw [if_neg h]
set_option maxRecDepth 20000 in
set_option maxHeartbeats 1000000 in
theorem above_any (a : List Nat) (n nt : Nat) (ha : a.length <= 100) (hn : n < 18446744073709551616) (hnt : nt <= 100) (va : Value) (w : World) (la : Lies w va (U64s a) 192) :
  Calls Tryz.prog 164 #[va,.int .u64 (n : Int),.int .i64 (nt : Int)] w fun e w'=>e = .returned (.bool (Ref.ab a n nt a.length)) /\ Below w.heap.size w w':=by
 obtain ⟨ga,ca,rfl,hA⟩:=la
 rw [U64s_size]
 go_enter Tryz.func164,Tryz.ntmps164
 go_wp2_with fail
 go_loopw [7] (fun vi wr=>∃ j : Nat,j <= a.length /\ vi = .int .i64 ((j : Int) - 1) /\ Ref.ab a n nt a.length = Ref.ab a n nt j /\ Below w.heap.size w wr) (fun vi _=>(intOf vi + 1).toNat)
 case atStart=>exact ⟨a.length,by omega,rfl,rfl,Below.refl _ _⟩
 case round =>
  obtain ⟨j,hj,rfl,HA,b1⟩:=hrel
  by_cases hj0 : j = 0
  ·subst hj0
   have HA' : Hid _:=HA
   clear HA
   go_wp2_with fail
   go_ret
   exact ⟨by rw [HA'.out]; rfl,b1⟩
  ·obtain ⟨m,rfl⟩ : ∃ m,j = m + 1:=⟨j - 1,by omega⟩
   rw [show (((m + 1 : Nat) : Int) - 1) = (m : Int) by omega]
   have hm : m < a.length:=by omega
   have i0 : (m : Int) < (a.length : Int):=by omega
   obtain ⟨x,hx⟩ : ∃ x,a.getD m 0 = x:=⟨_,rfl⟩
   have HC : Hid (∀ W,Below w.heap.size w W -> W.cell? ⟨ga,m,none⟩ = some (.int .u64 (x : Int))):=fun W hW=>by
    rw [<- hx]; exact ((hA.below hW hA.lt).cell m).trans (U64s_get _ _ hm)
   rw [show Ref.ab a n nt (m + 1) = (if a.getD m 0 = Ref.want n nt m then Ref.ab a n nt m else decide (Ref.want n nt m < a.getD m 0)) from rfl,hx] at HA
   clear hx
   by_cases h1 : nt <= m
   ·have d1 : decide ((nt : Int) <= (m : Int)) = true:=by simp; omega
    by_cases h2 : m < nt + 4
    ·have d2 : decide ((m : Int) < (nt : Int) + 4) = true:=by simp; omega
     rw [want_in n nt m h1 h2] at HA
     have hHA : Hid _:=HA
     clear HA
     have s1 : (0 : Int) <= (m : Int) - (nt : Int):=by omega
     have s2 : (m : Int) - (nt : Int) < 4:=by omega
     have s3 : ((m : Int) - (nt : Int)).toNat = m - nt:=by omega
     go_wp2_with fail
     refine (digits_any n hn _).mono ?_
     rintro e w2 ⟨v,rfl,⟨g,cap,rfl,hD⟩,b2⟩
     have B2:=belowCall b1 b2
     have cA:=HC.out _ B2
     have cD:=(hD.cell (m - nt)).trans (U64s_get _ _ (by rw [Ref.dg_length]; omega))
     rw [U64s_size,Ref.dg_length]
     have HA:=hHA.out
     clear hHA
     generalize (Ref.dg n).getD (m - nt) 0 = y at *
     by_cases hxy : x = y
     ·have q1 : ((x : Int) != (y : Int)) = false:=by rw [hxy]; simp
      rw [if_pos hxy] at HA
      clear hxy
      go_wp2_with fail
      go_roundw
      case rel=>exact ⟨m,by omega,by go_num,HA,B2⟩
      case measure=>show ((m : Int) - 1 + 1).toNat < ((m : Int) + 1).toNat; omega
     ·have q1 : ((x : Int) != (y : Int)) = true:=by rw [bne_iff_ne]; omega
      rw [if_neg hxy] at HA
      clear hxy
      have HA' : Hid _:=HA
      clear HA
      go_wp2_with fail
      go_ret
      exact ⟨by rw [HA'.out]; simp,B2⟩
    ·have d2 : decide ((m : Int) < (nt : Int) + 4) = false:=by simp; omega
     rw [want_out n nt m (by omega)] at HA
     have cA:=HC.out _ b1
     by_cases hxy : x = 0
     ·have q1 : ((x : Int) != 0) = false:=by rw [hxy]; simp
      rw [if_pos hxy] at HA
      clear hxy
      go_wp2_with fail
      go_roundw
      case rel=>exact ⟨m,by omega,by go_num,HA,b1⟩
      case measure=>show ((m : Int) - 1 + 1).toNat < ((m : Int) + 1).toNat; omega
     ·have q1 : ((x : Int) != 0) = true:=by rw [bne_iff_ne]; omega
      rw [if_neg hxy] at HA
      clear hxy
      have HA' : Hid _:=HA
      clear HA
      go_wp2_with fail
      go_ret
      exact ⟨by rw [HA'.out]; simp,b1⟩
   ·have d1 : decide ((nt : Int) <= (m : Int)) = false:=by simp; omega
    rw [want_out n nt m (by omega)] at HA
    have cA:=HC.out _ b1
    by_cases hxy : x = 0
    ·have q1 : ((x : Int) != 0) = false:=by rw [hxy]; simp
     rw [if_pos hxy] at HA
     clear hxy
     go_wp2_with fail
     go_roundw
     case rel=>exact ⟨m,by omega,by go_num,HA,b1⟩
     case measure=>show ((m : Int) - 1 + 1).toNat < ((m : Int) + 1).toNat; omega
    ·have q1 : ((x : Int) != 0) = true:=by rw [bne_iff_ne]; omega
     rw [if_neg hxy] at HA
     clear hxy
     have HA' : Hid _:=HA
     clear HA
     go_wp2_with fail
     go_ret
     exact ⟨by rw [HA'.out]; simp,b1⟩
theorem addAt_succ (k : Nat) : Ref.addAt (k + 1) = Ref.addAt k / 2:=by
 unfold Ref.addAt; rw [Nat.pow_succ,Nat.div_div_eq_div_mul]
theorem addAt_le (k : Nat) : Ref.addAt k <= 68719476736:=Nat.div_le_self _ _
theorem addAt_pos : ∀ k : Fin 37,0 < Ref.addAt k.val:=by decide
theorem addAt_end : Ref.addAt 37 = 0:=by decide
theorem bitsTo_lt (n root k : Nat) : Ref.bitsTo n root k < 18446744073709551616:=by
 induction k with
 | zero=>simp only [Ref.bitsTo]; omega
 | succ k ih =>
  simp only [Ref.bitsTo,Ref.bit]
  split
  ·exact ih
  ·exact Nat.mod_lt _ (by decide)
set_option maxRecDepth 20000 in
set_option maxHeartbeats 1000000 in
theorem bitsOf_any (n root : Nat) (hn : n < 18446744073709551616) (w : World) :
  Calls Tryz.prog 116 #[.int .u64 (n : Int),.int .i64 (root : Int)] w fun e w'=>e = .returned (.int .u32 ((Ref.bitsOf n root : Nat) : Int)) /\ Below w.heap.size w w':=by
 have HL : Hid (∀ k,Ref.bitsTo n root k < 18446744073709551616):=bitsTo_lt n root
 have HE : Hid (Ref.bitsOf n root = Ref.bitsTo n root 37 % 4294967296):=rfl
 have HS : Hid (∀ k,Ref.bitsTo n root (k + 1) = if Ref.ab (Ref.cubed root (Ref.dg ((Ref.bitsTo n root k + Ref.addAt k) % 18446744073709551616))) n (Ref.nts root) (Ref.cubed root (Ref.dg ((Ref.bitsTo n root k + Ref.addAt k) % 18446744073709551616))).length then Ref.bitsTo n root k else (Ref.bitsTo n root k + Ref.addAt k) % 18446744073709551616):=fun k=>rfl
 have H0 : Hid (Ref.bitsTo n root 0 = 0):=rfl
 generalize Ref.bitsTo n root = f at *
 go_enter Tryz.func116,Tryz.ntmps116
 go_wp2_with fail
 go_loopw [5,6] (fun vx va wr=>∃ k : Nat,k <= 37 /\ va = .int .u64 ((Ref.addAt k : Nat) : Int) /\ vx = .int .u64 ((f k : Nat) : Int) /\ Below w.heap.size w wr) (fun _ va _=>(intOf va).toNat)
 case atStart=>exact ⟨0,by omega,rfl,by rw [H0.out]; rfl,Below.refl _ _⟩
 case round =>
  obtain ⟨k,hk,rfl,rfl,b1⟩:=hrel
  by_cases hlt : k < 37
  ·have hx:=HL.out k
   have hs:=HS.out k
   have ha:=addAt_pos ⟨k,hlt⟩
   have ha2:=addAt_le k
   have hs2:=addAt_succ k
   simp only at ha
   generalize f k = x at *
   generalize Ref.addAt k = d at *
   have q0 : decide ((0 : Int) < (d : Int)) = true:=by simp; omega
   have hD : (x + d) % 18446744073709551616 < 18446744073709551616:=Nat.mod_lt _ (by decide)
   have hw : IntKind.u64.wrap ((x : Int) + (d : Int)) = (((x + d) % 18446744073709551616 : Nat) : Int):=by rw [<- Int.natCast_add,wrap_u64_nat]
   generalize (x + d) % 18446744073709551616 = y at *
   have hs' : Hid _:=hs
   have hs2' : Hid _:=hs2
   clear hs hs2
   go_wp2_with fail
   refine (digits_any y hD _).mono ?_
   rintro e w2 ⟨v2,rfl,l2,b2⟩
   have B2:=belowCall b1 b2
   clear b1 b2
   go_wp2_with fail
   refine (times_any (Ref.dg y) (Ref.dg y) (by rw [Ref.dg_length]; decide) (by rw [Ref.dg_length]; decide) _ _ _ l2 l2).mono ?_
   rintro e w3 ⟨v3,rfl,l3,b3⟩
   have l4:=l2.below b3
   have B3:=belowCall B2 b3
   clear B2 b3 l2
   by_cases r3 : root = 3
   ·have r0 : ((root : Int) == 3) = true:=by rw [r3]; rfl
    have hs'':=hs'.out
    rw [show Ref.cubed root (Ref.dg y) = Ref.tms (Ref.tms (Ref.dg y) (Ref.dg y)) (Ref.dg y) by unfold Ref.cubed; rw [if_pos r3],show Ref.nts root = 6 by unfold Ref.nts; rw [if_pos r3]] at hs''
    clear hs' r3
    go_wp2_with fail
    refine (times_any (Ref.tms (Ref.dg y) (Ref.dg y)) (Ref.dg y) (by rw [Ref.tms_length,Ref.dg_length]; decide) (by rw [Ref.dg_length]; decide) _ _ _ l3 l4).mono ?_
    rintro e w4 ⟨v4,rfl,l5,b4⟩
    have B4:=belowCall B3 b4
    clear B3 b4 l3 l4
    go_wp2_with fail
    refine (above_any (Ref.tms (Ref.tms (Ref.dg y) (Ref.dg y)) (Ref.dg y)) n 6 (by rw [Ref.tms_length,Ref.tms_length,Ref.dg_length]; decide) hn (by decide) _ _ l5).mono ?_
    rintro e w5 ⟨rfl,b5⟩
    have B5:=belowCall B4 b5
    clear B4 b5 l5
    cases hz : Ref.ab (Ref.tms (Ref.tms (Ref.dg y) (Ref.dg y)) (Ref.dg y)) n 6 (Ref.tms (Ref.tms (Ref.dg y) (Ref.dg y)) (Ref.dg y)).length
    ·rw [hz] at hs''
     have hs3 : Hid _:=hs''
     clear hs'' hz
     go_wp2_with fail
     exact ⟨⟨k + 1,by omega,by rw [hs2'.out]; simp,by rw [hs3.out]; simp,B5⟩,by simp [intOf]; omega⟩
    ·rw [hz] at hs''
     have hs3 : Hid _:=hs''
     clear hs'' hz
     go_wp2_with fail
     exact ⟨⟨k + 1,by omega,by rw [hs2'.out]; simp,by rw [hs3.out]; simp,B5⟩,by simp [intOf]; omega⟩
   ·have r0 : ((root : Int) == 3) = false:=by rw [beq_eq_false_iff_ne]; omega
    have hs'':=hs'.out
    rw [show Ref.cubed root (Ref.dg y) = Ref.tms (Ref.dg y) (Ref.dg y) by unfold Ref.cubed; rw [if_neg r3],show Ref.nts root = 4 by unfold Ref.nts; rw [if_neg r3]] at hs''
    clear hs' r3
    go_wp2_with fail
    refine (above_any (Ref.tms (Ref.dg y) (Ref.dg y)) n 4 (by rw [Ref.tms_length,Ref.dg_length]; decide) hn (by decide) _ _ l3).mono ?_
    rintro e w5 ⟨rfl,b5⟩
    have B5:=belowCall B3 b5
    clear B3 b5 l3 l4
    cases hz : Ref.ab (Ref.tms (Ref.dg y) (Ref.dg y)) n 4 (Ref.tms (Ref.dg y) (Ref.dg y)).length
    ·rw [hz] at hs''
     have hs3 : Hid _:=hs''
     clear hs'' hz
     go_wp2_with fail
     exact ⟨⟨k + 1,by omega,by rw [hs2'.out]; simp,by rw [hs3.out]; simp,B5⟩,by simp [intOf]; omega⟩
    ·rw [hz] at hs''
     have hs3 : Hid _:=hs''
     clear hs'' hz
     go_wp2_with fail
     exact ⟨⟨k + 1,by omega,by rw [hs2'.out]; simp,by rw [hs3.out]; simp,B5⟩,by simp [intOf]; omega⟩
  ·obtain rfl : k = 37:=by omega
   have hx:=HL.out 37
   rw [addAt_end]
   generalize f 37 = x at *
   go_wp2_with fail
   go_ret
   exact ⟨by rw [HE.out]; exact ret_int (by omega),b1⟩
end Go.Proofs.YteapbbaollmniaaGreatDoor.H
/- The contract of the document's Roots. -/
namespace Go.Proofs.YteapbbaollmniaaGreatDoor.H
open Go.RowKit
/-- a list that can be read: where its cells lie, and that they are these -/
def Reads (w : World) (v : Value) (xs : List Value) : Prop:=∃ g o cap,v = .slice (some ⟨g,o,none⟩) xs.length cap /\ xs.length <= cap /\ g < w.heap.size /\ ∀ j,j < xs.length -> w.cell? ⟨g,o + j,none⟩ = xs[j]?
theorem Reads.below {w w' : World} {v : Value} {xs : List Value} (h : Reads w v xs) (hb : Below w.heap.size w w') : Reads w' v xs:=by
 obtain ⟨g,o,cap,h1,h2,h3,h4⟩:=h
 refine ⟨g,o,cap,h1,h2,Nat.lt_of_lt_of_le h3 hb.size,fun j hj=>?_⟩
 rw [<- h4 j hj]
 unfold World.cell?
 rw [hb.block g h3]
theorem Owns.reads {e : TypeId} {base : Nat} {v : Value} {xs : List Value} {w : World} (h : Owns e base v xs w) (hp : 0 < xs.length) : Reads w v xs:=by
 obtain ⟨g,cap,rfl,h2,_,_,h5,_⟩:=h.form hp
 exact ⟨g,0,cap,rfl,h2,h5,fun j hj=>by rw [Nat.zero_add]; exact h.cell j hj⟩
theorem Owns.len {e : TypeId} {base : Nat} {v : Value} {xs : List Value} {w : World} (h : Owns e base v xs w) : ∃ sp cap,v = .slice sp xs.length cap:=by
 obtain ⟨h1,h2⟩:=h
 rcases h2 with ⟨rfl,h0⟩ | ⟨g,cap,cur,hv,_⟩
 ·exact ⟨none,0,by rw [h0]⟩
 ·exact ⟨_,cap,hv⟩
theorem U32s_app1 (l : List Nat) (a : Nat) (z : Int) (hz : z = (a : Int)) : (U32s l).toList ++ #[Value.int .u32 z].toList = (U32s (l ++ [a])).toList:=by subst hz; simp [U32s]
theorem take_app (l : List Nat) (c : Nat) (h : c < l.length) : l.take c ++ [l.getD c 0] = l.take (c + 1):=by
 rw [List.take_succ_eq_append_getElem h,List.getD_eq_getElem?_getD,List.getElem?_eq_getElem h]; rfl
theorem apart_ne {v2 v3 : Value} (hap : ∀ k,v2.ownBlock = some k -> v3.ownBlock ≠ some k) : v2.ownBlock = none \/ v2.ownBlock ≠ v3.ownBlock:=by
 cases h : v2.ownBlock with
 | none=>exact .inl rfl
 | some k=>exact .inr (fun e=>hap k h e.symm)
theorem apart_flip {v2 v3 : Value} (hap : ∀ k,v2.ownBlock = some k -> v3.ownBlock ≠ some k) : ∀ k,v3.ownBlock = some k -> v2.ownBlock ≠ some k:=fun k h e=>hap k e h
theorem apart_new {e : TypeId} {base : Nat} {xs : List Value} {W : World} {v2 v3 : Value} {g n cap N : Nat} (_ : Owns e base (.slice (some ⟨g,0,none⟩) n cap) xs W) (hap : ∀ k,v2.ownBlock = some k -> v3.ownBlock ≠ some k) (hor : v3.ownBlock = some g \/ g = N) (hlt : ∀ k,v2.ownBlock = some k -> k < N) : ∀ k,v2.ownBlock = some k -> (Value.slice (some ⟨g,0,none⟩) n cap).ownBlock ≠ some k:=by
 intro k hk e
 have e' : g = k:=by simpa [Value.ownBlock] using e
 subst e'
 rcases hor with h | h
 ·exact hap g hk h
 ·have:=hlt g hk; omega
theorem lp_stop (m f d : Nat) (t : Bool) (h : ¬ (d * d <= m /\ t = true)) : Ref.lp m f d t = t:=by
 cases f with
 | zero=>rfl
 | succ f=>rw [Ref.lp,if_neg h]
theorem len_take (l : List Nat) (c : Nat) : (U32s (l.take c)).toList.length = min c l.length:=by simp [U32s]
set_option maxRecDepth 20000 in
set_option maxHeartbeats 2000000 in
theorem roots_any (w : World) :
  Calls Tryz.prog 68 #[] w fun e w'=>∃ v2 v3,e = .returned (.tuple #[v2,v3]) /\ Reads w' v2 (U32s Ref.initL).toList /\ Reads w' v3 (U32s Sha.cube).toList /\ Below w.heap.size w w':=by
 go_enter Tryz.func68,Tryz.ntmps68
 go_wp2_with fail
 go_loopw [2,3,4] (fun v2 v3 v4 wr=>∃ (m : Nat),2 <= m /\ m <= 312 /\ v4 = .int .u64 (m : Int) /\ Owns 139 w.heap.size v2 (U32s (Ref.initL.take (Ref.cnt m))).toList wr /\ Owns 139 w.heap.size v3 (U32s (Sha.cube.take (Ref.cnt m))).toList wr /\ (∀ k,v2.ownBlock = some k -> v3.ownBlock ≠ some k) /\ Below w.heap.size w wr) (fun _ _ v4 _=>400 - (intOf v4).toNat)
 case atStart=>exact ⟨2,by omega,by omega,rfl,by rw [Ref.cnt_two]; exact Owns.nil _ _ _,by rw [Ref.cnt_two]; exact Owns.nil _ _ _,(fun k hk=>by cases hk),Below.refl _ _⟩
 case round =>
  obtain ⟨m,hm2,hm,rfl,o2,o3,hap,b1⟩:=hrel
  obtain ⟨sp2,c2,e2⟩:=o2.len
  obtain ⟨sp3,c3,e3⟩:=o3.len
  rw [len_take] at e2 e3
  rw [show Ref.initL.length = 8 from rfl] at e2
  rw [show Sha.cube.length = 64 from rfl] at e3
  by_cases hlt : m < 312
  ·have hc:=Ref.cnt_low ⟨m,hlt⟩
   simp only at hc
   rw [Nat.min_eq_left (by omega)] at e3
   subst e2 e3
   have hci : (Ref.cnt m : Int) < 64:=by omega
   have HF : Hid _:=Ref.cnt_facts ⟨m,hlt⟩
   generalize hcn : Ref.cnt m = c at *
   go_wp2_with fail
   go_loopw [5,6] (fun vi vd wr'=>∃ (d f : Nat) (t : Bool),2 <= d /\ d + f = 42 /\ vd = .int .u64 (d : Int) /\ vi = .bool t /\ Ref.lp m f d t = Ref.isP m /\ wr' = wr) (fun _ vd _=>42 - (intOf vd).toNat)
   case atStart=>exact ⟨2,40,true,by omega,by omega,rfl,rfl,rfl,rfl⟩
   case round =>
    obtain ⟨d,f,t,hd2,hdf,rfl,rfl,hlp,rfl⟩:=hrel
    have hdd0:=Nat.mul_le_mul (show d <= 42 by omega) (show d <= 42 by omega)
    have hdd : IntKind.u64.wrap ((d : Int) * (d : Int)) = ((d * d : Nat) : Int):=by rw [<- Int.natCast_mul,wrap_u64_nat,Nat.mod_eq_of_lt (by omega)]
    clear hdd0
    by_cases hg : d * d <= m /\ t = true
    ·obtain ⟨hg1,rfl⟩:=hg
     have hd40 : d <= 17:=by
      rcases Nat.lt_or_ge 17 d with h | h
      ·have:=Nat.mul_le_mul (show 18 <= d by omega) (show 18 <= d by omega); omega
      ·exact h
     obtain ⟨f',rfl⟩ : ∃ f',f = f' + 1:=⟨f - 1,by omega⟩
     rw [Ref.lp,if_pos ⟨hg1,rfl⟩] at hlp
     have Hlp : Hid _:=hlp
     have hd0 : (d : Int) ≠ 0:=by omega
     have q1 : ((m : Int) % (d : Int) != 0) = decide (m % d ≠ 0):=by
      rw [<- Int.natCast_emod]
      by_cases h : m % d = 0
      ·rw [h]; simp
      ·rw [decide_eq_true h,bne_iff_ne]; omega
     clear hlp hap o2 o3 HF hcn
     generalize decide (m % d ≠ 0) = t at *
     generalize hq : d * d = dd at *
     clear hq
     go_wp2_with fail
     exact ⟨⟨d + 1,f',t,by omega,by omega,rfl,rfl,Hlp.out,trivial⟩,by simp [intOf]; omega⟩
    ·have ht:=lp_stop m f d t hg
     rw [hlp] at ht
     have hF:=HF.out
     rw [ht] at hF
     clear hlp HF
     cases t
     ·have hc1 : Hid (Ref.cnt (m + 1) = c):=hF.2 rfl
      clear hF ht hcn
      have HO2 : Hid _:=o2
      have HO3 : Hid _:=o3
      have HAP : Hid _:=hap
      clear o2 o3 hap
      by_cases hg1 : d * d <= m
      ·generalize hq : d * d = dd at *
       clear hq
       go_wp2_with fail
       go_roundw
       case rel=>exact ⟨m + 1,by omega,by omega,by go_num,by rw [hc1.out]; exact HO2.out,by rw [hc1.out]; exact HO3.out,HAP.out,b1⟩
       case measure=>simp [intOf]; omega
      ·generalize hq : d * d = dd at *
       clear hq
       go_wp2_with fail
       go_roundw
       case rel=>exact ⟨m + 1,by omega,by omega,by go_num,by rw [hc1.out]; exact HO2.out,by rw [hc1.out]; exact HO3.out,HAP.out,b1⟩
       case measure=>simp [intOf]; omega
     ·obtain ⟨hpr,hc1,_⟩:=hF.1 rfl hm2
      have hc1 : Hid (Ref.cnt (m + 1) = c + 1):=hc1
      have hg1 : ¬ d * d <= m:=fun h=>hg ⟨h,rfl⟩
      have hcu : Hid (Sha.cube.take c ++ [Ref.bitsOf m 3] = Sha.cube.take (c + 1)):=by
       unfold Hid; rw [<- take_app Sha.cube c hc,<- Ref.cu_all c hc,hpr]
      have hl3 : Hid ((U32s (Sha.cube.take c)).toList.length + 1 <= 1000000000000):=by unfold Hid; rw [len_take]; omega
      have hl2 : Hid ((U32s (Ref.initL.take c)).toList.length + 1 <= 1000000000000):=by unfold Hid; rw [len_take]; omega
      clear hF ht hg hcn
      generalize hq : d * d = dd at *
      clear hq
      by_cases h8 : c < 8
      ·have hsq : Hid (Ref.initL.take c ++ [Ref.bitsOf m 2] = Ref.initL.take (c + 1)):=by
        unfold Hid; rw [<- take_app Ref.initL c h8,<- Ref.sq_all c h8,hpr]
       have hmin : min c 8 = c:=by omega
       clear hpr
       rw [hmin] at o2 hap ⊢
       have q8 : (c : Int) < 8:=by omega
       go_wp2_with fail
       refine (bitsOf_any m 2 (by omega) _).mono ?_
       rintro e w3 ⟨rfl,b3⟩
       have P2:=o2.below b3
       have P3:=o3.below b3
       have B3:=belowCall b1 b3
       go_wp2_with (refine wpList_app el40 rfl (.tmp 31) (.tmp 34) rfl w.heap.size _ _ rfl (by exact P2.alloc _) _ _ #[_] rfl (by exact Has.new _ _ _ _ rfl) (by simp [Value.oneCell']) (by simp) hl2.out (Nat.le_trans B3.size (by simp)) ?_; intro g2 cap2 w4 ho2 hg2 hor2 hb4)
       have P3':=(P3.alloc _).kept hg2 (apart_ne (apart_flip hap))
       have AP2:=apart_flip (apart_new ho2 (apart_flip hap) hor2 (fun k hk=>((P3.alloc _).base_le k hk).2))
       have B4:=(belowAlloc B3 _).trans hb4
       rw [U32s_app1 _ _ _ rfl,hsq.out] at ho2
       clear P2 P3 o2 o3 hap b1 b3 B3 hb4 hor2 hg2
       go_wp2_with fail
       refine (bitsOf_any m 3 (by omega) _).mono ?_
       rintro e w5 ⟨rfl,b5⟩
       have O3:=P3'.below b5
       have O2:=ho2.below b5
       have B5:=belowCall B4 b5
       go_wp2_with (refine wpList_app el40 rfl (.tmp 36) (.tmp 39) rfl w.heap.size _ _ rfl (by exact O3.alloc _) _ _ #[_] rfl (by exact Has.new _ _ _ _ rfl) (by simp [Value.oneCell']) (by simp) hl3.out (Nat.le_trans B5.size (by simp)) ?_; intro g cap w6 ho hg hor hb6)
       have O2':=(O2.alloc _).kept hg (apart_ne AP2)
       have AP:=apart_new ho AP2 hor (fun k hk=>((O2.alloc _).base_le k hk).2)
       have B6:=(belowAlloc B5 _).trans hb6
       rw [U32s_app1 _ _ _ rfl,hcu.out] at ho
       go_roundw
       case rel=>exact ⟨m + 1,by omega,by omega,by go_num,by rw [hc1.out]; exact O2',by rw [hc1.out]; exact ho,AP,B6⟩
       case measure=>simp [intOf]; omega
      ·have hmin : min c 8 = 8:=by omega
       have hsame : Ref.initL.take c = Ref.initL.take (c + 1):=by
        rw [List.take_of_length_le (show Ref.initL.length <= c by show 8 <= c; omega),List.take_of_length_le (show Ref.initL.length <= c + 1 by show 8 <= c + 1; omega)]
       rw [hsame] at o2
       rw [hmin] at o2 hap ⊢
       clear hpr hsame
       go_wp2_with fail
       refine (bitsOf_any m 3 (by omega) _).mono ?_
       rintro e w5 ⟨rfl,b5⟩
       have O3:=o3.below b5
       have O2:=o2.below b5
       have B5:=belowCall b1 b5
       go_wp2_with (refine wpList_app el40 rfl (.tmp 36) (.tmp 39) rfl w.heap.size _ _ rfl (by exact O3.alloc _) _ _ #[_] rfl (by exact Has.new _ _ _ _ rfl) (by simp [Value.oneCell']) (by simp) hl3.out (Nat.le_trans B5.size (by simp)) ?_; intro g cap w6 ho hg hor hb6)
       have O2':=(O2.alloc _).kept hg (apart_ne hap)
       have AP:=apart_new ho hap hor (fun k hk=>((O2.alloc _).base_le k hk).2)
       have B6:=(belowAlloc B5 _).trans hb6
       rw [U32s_app1 _ _ _ rfl,hcu.out] at ho
       go_roundw
       case rel=>exact ⟨m + 1,by omega,by omega,by go_num,by rw [hc1.out]; exact O2',by rw [hc1.out]; exact ho,AP,B6⟩
       case measure=>simp [intOf]; omega
  ·obtain rfl : m = 312:=by omega
   have hce:=Ref.cnt_end
   rw [hce] at o2 o3 e2 e3
   have r2:=o2.reads (by rw [len_take]; decide)
   have r3:=o3.reads (by rw [len_take]; decide)
   rw [show Ref.initL.take 64 = Ref.initL from rfl] at r2
   rw [show Sha.cube.take 64 = Sha.cube from rfl] at r3
   have R2 : Hid _:=r2
   have R3 : Hid _:=r3
   subst e2 e3
   clear r2 r3 o2 o3 hap hce
   go_wp2_with fail
   go_ret2
   exact ⟨_,_,rfl,R2.out,R3.out,b1⟩
end Go.Proofs.YteapbbaollmniaaGreatDoor.H
