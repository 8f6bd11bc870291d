/- awake: the examples. -/
import Derived.Test.YtnhakbpalfcmfaaDoorSRead
/- What Make's bytes tell, and what bytes that Read takes must be. No program in it. -/
namespace Go.Proofs.YtnhakbpalfcmfaaDoor
open Go.RowKit
theorem pre_length (k n j : Nat) (d p : List Nat) : (pre k n j d p).length = 11 + d.length + p.length := by
  unfold pre be4; simp; omega
theorem pre_lt {k n j : Nat} {d p : List Nat} (hk : k < 256) (hn : n < 256) (hj : j < 256) (hd : ∀ x ∈ d, x < 256) (hp : ∀ x ∈ p, x < 256) : ∀ x ∈ pre k n j d p, x < 256 := by
  intro x hx
  unfold pre be4 at hx
  simp only [List.mem_append, List.mem_cons, List.not_mem_nil, or_false] at hx
  rcases hx with (((hx | hx) | hx) | hx) | hx
  · omega
  · omega
  · omega
  · exact hd x hx
  · exact hp x hx
theorem dat_lt {k n j : Nat} {d p : List Nat} (hk : k < 256) (hn : n < 256) (hj : j < 256) (hd : ∀ x ∈ d, x < 256) (hp : ∀ x ∈ p, x < 256) : ∀ x ∈ dat k n j d p, x < 256 := by
  intro x hx
  unfold dat at hx
  rcases List.mem_append.1 hx with hx | hx
  · exact pre_lt hk hn hj hd hp x hx
  · exact digest_lt _ x hx
theorem dat_length (k n j : Nat) (d p : List Nat) : (dat k n j d p).length = 43 + d.length + p.length := by
  unfold dat; rw [List.length_append, pre_length, digest_length]; omega
/-- a shard's bytes, and its fields out of them -/
structure IsD (k n j : Nat) (d p s : ByteArray) : Prop where
  hk : k < 256
  hn : n < 256
  hj : j < 256
  hd : d.size = 32
  hs : s = ofBs (dat k n j (bs d) (bs p))
theorem IsD.bytes {k n j : Nat} {d p s : ByteArray} (h : IsD k n j d p s) : bs s = dat k n j (bs d) (bs p) := by
  rw [h.hs]; exact bs_ofBs _ (dat_lt h.hk h.hn h.hj (bs_lt d) (bs_lt p))
theorem IsD.size {k n j : Nat} {d p s : ByteArray} (h : IsD k n j d p s) : s.size = 75 + p.size := by
  rw [← bs_length, h.bytes, dat_length, bs_length, bs_length, h.hd]
theorem mid_take (A B C : List Nat) : ((A ++ (B ++ C)).take (A.length + B.length)).drop A.length = B := by
  rw [List.take_append, List.drop_append]
  simp
theorem IsD.head {k n j : Nat} {d p s : ByteArray} (h : IsD k n j d p s) : bs s = [115, 104, 100, 49, k, n, j] ++ (be4 p.size ++ (bs d ++ (bs p ++ Sha.digest (pre k n j (bs d) (bs p))))) := by
  rw [h.bytes]; unfold dat
  generalize Sha.digest (pre k n j (bs d) (bs p)) = D
  unfold pre
  rw [bs_length]; simp
theorem IsD.b4 {k n j : Nat} {d p s : ByteArray} (h : IsD k n j d p s) : fB s 4 = k ∧ fB s 5 = n ∧ fB s 6 = j := by
  unfold fB; rw [h.head]; exact ⟨rfl, rfl, rfl⟩
theorem IsD.fd {k n j : Nat} {d p s : ByteArray} (h : IsD k n j d p s) : fD s = d := by
  apply bs_inj
  unfold fD
  have hd := h.head
  have hdl : (bs d).length = 32 := by rw [bs_length, h.hd]
  have hl : ([115, 104, 100, 49, k, n, j] ++ be4 p.size).length = 11 := by simp [be4]
  rw [← List.append_assoc] at hd
  have := mid_take ([115, 104, 100, 49, k, n, j] ++ be4 p.size) (bs d) (bs p ++ Sha.digest (pre k n j (bs d) (bs p)))
  rw [hl, hdl, ← hd] at this
  rw [bs_extract]; exact this
theorem IsD.fp {k n j : Nat} {d p s : ByteArray} (h : IsD k n j d p s) : fP s = p := by
  apply bs_inj
  unfold fP
  have hd := h.head
  have hdl : (bs d).length = 32 := by rw [bs_length, h.hd]
  have hl : (([115, 104, 100, 49, k, n, j] ++ be4 p.size) ++ bs d).length = 43 := by simp [be4, hdl]
  rw [← List.append_assoc, ← List.append_assoc] at hd
  have := mid_take (([115, 104, 100, 49, k, n, j] ++ be4 p.size) ++ bs d) (bs p) (Sha.digest (pre k n j (bs d) (bs p)))
  rw [hl, bs_length, ← hd] at this
  rw [bs_extract, show s.size - 32 = 43 + p.size by have := h.size; omega]; exact this
theorem IsD.mark {k n j : Nat} {d p s : ByteArray} (h : IsD k n j d p s) : (bs s).take 4 = [115, 104, 100, 49] := by
  rw [h.head]; rfl
theorem IsD.count {k n j : Nat} {d p s : ByteArray} (h : IsD k n j d p s) : ((bs s).take 11).drop 7 = be4 p.size := by
  have := mid_take [115, 104, 100, 49, k, n, j] (be4 p.size) (bs d ++ (bs p ++ Sha.digest (pre k n j (bs d) (bs p))))
  rw [← h.head] at this
  exact this
theorem IsD.sum {k n j : Nat} {d p s : ByteArray} (h : IsD k n j d p s) : (bs s).drop (s.size - 32) = Sha.digest ((bs s).take (s.size - 32)) := by
  have hl : (pre k n j (bs d) (bs p)).length = s.size - 32 := by rw [pre_length, bs_length, bs_length, h.hd, h.size]; omega
  rw [h.bytes]
  unfold dat
  rw [← hl, List.drop_left, List.take_left]
/-- what Make makes of a shard that may be -/
theorem mk_is {K N : Int} {d : ByteArray} {i : Int} {p : ByteArray} (h : mkE K N d i p = 0) : IsD K.toNat N.toNat i.toNat d p (mkD K N d i p) ∧ mkN K N d i p = ofBs (nm (bs d) i) ∧ p.size ≤ 65461 ∧ (K.toNat : Int) = K ∧ (N.toNat : Int) = N ∧ (i.toNat : Int) = i ∧ 0 ≤ i ∧ i < 12 := by
  have hN : mkN K N d i p = ofBs (nm (bs d) i) := by unfold mkN; rw [if_pos h]
  have hD : mkD K N d i p = ofBs (dat K.toNat N.toNat i.toNat (bs d) (bs p)) := by unfold mkD; rw [if_pos h]
  unfold mkE at h
  split at h
  · rename_i hok
    split at h
    · rename_i hp
      unfold okS okC at hok
      simp only [Bool.and_eq_true, decide_eq_true_eq] at hok
      obtain ⟨⟨⟨⟨h1, h2⟩, h3⟩, h4⟩, h5, h6⟩ := hok
      exact ⟨⟨by omega, by omega, by omega, h4, hD⟩, hN, hp, by omega, by omega, by omega, by omega, by omega⟩
    · cases h
  · cases h
/-- READ OF MAKE. -/
theorem rd_mk {K N : Int} {d : ByteArray} {i : Int} {p : ByteArray} (h : mkE K N d i p = 0) : rdOk (mkN K N d i p) (mkD K N d i p) = true ∧ fB (mkD K N d i p) 4 = K ∧ fB (mkD K N d i p) 5 = N ∧ fD (mkD K N d i p) = d ∧ fB (mkD K N d i p) 6 = i ∧ fP (mkD K N d i p) = p := by
  obtain ⟨hI, hN, hp, e1, e2, e3, _, _⟩ := mk_is h
  obtain ⟨f1, f2, f3⟩ := hI.b4
  rw [e1] at f1
  rw [e2] at f2
  rw [e3] at f3
  have f4 := hI.fd
  have f5 := hI.fp
  refine ⟨?_, f1, f2, f4, f3, f5⟩
  unfold rdOk
  rw [f1, f2, f3, f4, f5]
  simp only [Bool.and_eq_true, decide_eq_true_eq]
  exact ⟨by rw [hI.size]; omega, h, trivial, trivial⟩
/-- what Read takes was made -/
theorem rd_is {a s : ByteArray} (h : rdOk a s = true) : mkE (fB s 4) (fB s 5) (fD s) (fB s 6) (fP s) = 0 ∧ mkN (fB s 4) (fB s 5) (fD s) (fB s 6) (fP s) = a ∧ mkD (fB s 4) (fB s 5) (fD s) (fB s 6) (fP s) = s := by
  unfold rdOk at h
  simp only [Bool.and_eq_true, decide_eq_true_eq] at h
  exact h.2
theorem rd_isD {a s : ByteArray} (h : rdOk a s = true) : IsD (fB s 4).toNat (fB s 5).toNat (fB s 6).toNat (fD s) (fP s) s ∧ (fP s).size ≤ 65461 := by
  obtain ⟨h1, h2, h3⟩ := rd_is h
  have := mk_is h1
  rw [h3] at this
  exact ⟨this.1, this.2.2.1⟩
/-- what Read tells, field by field -/
def rK (a s : ByteArray) (j : Nat) : Int := if rdOk a s then fB s j else 0
def rD (a s : ByteArray) : ByteArray := if rdOk a s then fD s else ⟨#[]⟩
def rP (a s : ByteArray) : ByteArray := if rdOk a s then fP s else ⟨#[]⟩
def rE (a s : ByteArray) : Int := if rdOk a s then 0 else 4
theorem rdV_eq (a s : ByteArray) : rdV a s = .tuple #[.agg (shc (rK a s 4) (rK a s 5) (rD a s) (rK a s 6) (rP a s)), .int .i64 (rE a s)] := by
  unfold rdV rK rD rP rE
  split <;> rfl
end Go.Proofs.YtnhakbpalfcmfaaDoor
namespace Go.Proofs.YtnhakbpalfcmfaaDoor
open Go.RowKit
/-- 32 bytes 0 -/
def z32 : ByteArray := ofBs (List.replicate 32 0)
theorem z32_size : z32.size = 32 := by unfold z32; rw [ofBs_size]; simp
theorem z32_bs : bs z32 = List.replicate 32 0 := by decide +kernel
/-- the object of the example -/
theorem ex_ok : mkE 2 3 z32 0 ⟨#[]⟩ = 0 := by decide +kernel
theorem ex_name : ofBs (nm (bs z32) 3) = ⟨#[48, 48, 48, 48, 48, 48, 48, 48, 48, 48, 48, 48, 48, 48, 48, 48, 48, 48, 48, 48, 48, 48, 48, 48, 48, 48, 48, 48, 48, 48, 48, 48, 48, 48, 48, 48, 48, 48, 48, 48, 48, 48, 48, 48, 48, 48, 48, 48, 48, 48, 48, 48, 48, 48, 48, 48, 48, 48, 48, 48, 48, 48, 48, 48, 46, 51]⟩ := by decide +kernel
/-- an object that Make made of a shard that may be, and what is read of it -/
structure Made (K N : Int) (d : ByteArray) (i : Int) (p X Y : ByteArray) : Prop where
  md : ∀ w, Lay w → Calls Tryd.prog 7 #[.agg (shc K N d i p)] w fun e w' => e = .returned (.tuple #[.agg #[.string X, .string Y], .int .i64 0]) ∧ Below w.heap.size w w'
  rd : ∀ w, Lay w → Calls Tryd.prog 9 #[.agg #[.string X, .string Y]] w fun e w' => e = .returned (.tuple #[.agg (shc K N d i p), .int .i64 0]) ∧ Below w.heap.size w w'
  sz : Y.size = 75 + p.size
theorem made {K N : Int} {d : ByteArray} {i : Int} {p : ByteArray} (h : mkE K N d i p = 0) : Made K N d i p (mkN K N d i p) (mkD K N d i p) := by
  obtain ⟨hI, _, _, _, _, _, _, _⟩ := mk_is h
  obtain ⟨r1, r2, r3, r4, r5, r6⟩ := rd_mk h
  refine ⟨fun w hl => ?_, fun w hl => ?_, hI.size⟩
  · have := make_any K N d i p w hl
    unfold mkV obv at this
    rw [h] at this
    exact this
  · have := read_any (mkN K N d i p) (mkD K N d i p) w hl
    rw [rdV, if_pos r1, r2, r3, r4, r5, r6] at this
    exact this
theorem ex_made : ∃ X Y, Made 2 3 z32 0 ⟨#[]⟩ X Y := ⟨_, _, made ex_ok⟩
set_option maxRecDepth 20000 in
theorem awake_any (w : World) (hl : Lay w) : Calls Tryd.prog 6 #[] w fun e w' => e = .returned (.bool true) ∧ Below w.heap.size w w' := by
  have HM : ∀ w : World, (Instr.makeSlice 43 (.int .i64 32) (.int .i64 32)).run Tryd.prog w = .ok (.slice (some ⟨w.heap.size, 0, none⟩) 32 32) (w.alloc (.cells (U8s (List.replicate 32 0)) 5)) := fun w => makes_bytes 32 (by omega) w
  have HC : ∀ w : World, (convert 43 9 (.slice (some ⟨w.heap.size, 0, none⟩) 32 32)).run Tryd.prog (w.alloc (.cells (U8s (List.replicate 32 0)) 5)) = .ok (.string z32) (w.alloc (.cells (U8s (List.replicate 32 0)) 5)) := fun w => conv_str (w.alloc _) w.heap.size (List.replicate 32 0) 5 32 (Has.new _ _ _ _ rfl)
  have zs := z32_size
  have HN : Hid (∀ w, Lay w → Calls Tryd.prog 13 #[.string z32, .int .i64 3] w fun e w' => e = .returned (.string (ofBs (nm (bs z32) 3))) ∧ Below w.heap.size w w') := fun w hl => name_any z32 3 (by omega) (by omega) (by omega) w hl
  have HP : Hid (∀ w, Lay w → Calls Tryd.prog 11 #[.string (ofBs (nm (bs z32) 3))] w fun e w' => e = .returned (.tuple #[.string z32, .int .i64 3, .bool true]) ∧ Below w.heap.size w w') := fun w hl => parse_yes _ z32 3 ⟨zs, by omega, rfl⟩ w hl
  obtain ⟨X, Y, HK0, HR0, hY⟩ := ex_made
  have HK : Hid _ := HK0
  have HR : Hid _ := HR0
  clear HK0 HR0
  have nz : (ofBs (nm (bs z32) 3)).size = 66 := by rw [ex_name]; rfl
  have n1 : ((ofBs (nm (bs z32) 3)).extract 0 64).toList = [48, 48, 48, 48, 48, 48, 48, 48, 48, 48, 48, 48, 48, 48, 48, 48, 48, 48, 48, 48, 48, 48, 48, 48, 48, 48, 48, 48, 48, 48, 48, 48, 48, 48, 48, 48, 48, 48, 48, 48, 48, 48, 48, 48, 48, 48, 48, 48, 48, 48, 48, 48, 48, 48, 48, 48, 48, 48, 48, 48, 48, 48, 48, 48] := by rw [ex_name]; decide +kernel
  have n2 : ((ofBs (nm (bs z32) 3)).extract 64 66).toList = [46, 51] := by rw [ex_name]; decide +kernel
  generalize ofBs (nm (bs z32) 3) = A at *
  generalize z32 = D at *
  generalize U8s (List.replicate 32 0) = Z at *
  go_enter Tryd.func6, Tryd.ntmps6
  go_wp2_with fail
  refine (HN.out _ (hl.below ((Below.refl _ _).alloc (Nat.le_refl _) _))).mono ?_
  rintro e w1 ⟨rfl, b1⟩
  have B1 := belowCall ((Below.refl _ _).alloc (Nat.le_refl _) _) b1
  clear b1 HM HC HN
  go_wp2_with fail
  refine (HP.out _ (hl.below B1)).mono ?_
  rintro e w2 ⟨rfl, b2⟩
  have B2 := belowCall B1 b2
  clear b2 B1 HP
  go_wp2_with fail
  refine (HK.out _ (hl.below B2)).mono ?_
  rintro e w3 ⟨rfl, b3⟩
  have B3 := belowCall B2 b3
  clear b3 B2 HK
  go_wp2_with fail
  have B4 := belowAlloc B3 (.cells #[.string X, .string Y] 27)
  have O4 : Has (w3.alloc (.cells #[.string X, .string Y] 27)) w3.heap.size #[.string X, .string Y] 27 := Has.new _ _ _ _ rfl
  refine (HR.out _ (hl.below B4)).mono ?_
  rintro e w5 ⟨rfl, b5⟩
  have B5 := belowCall B4 b5
  have O5 := O4.below b5 O4.lt
  clear b5 B4 O4 B3 HR
  have o1 := fun o => (obj_cells (O5.alloc o)).2.1
  unfold shc
  go_wp2_with fail
  go_ret
  exact ⟨rfl, belowAlloc B5 _⟩
end Go.Proofs.YtnhakbpalfcmfaaDoor
