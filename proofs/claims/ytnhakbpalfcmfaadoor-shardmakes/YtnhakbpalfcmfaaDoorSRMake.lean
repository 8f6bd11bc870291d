/- The document's Make. -/
import Derived.Test.YtnhakbpalfcmfaaDoorSMake
import Derived.Test.YtnhakbpalfcmfaaDoorSDig
import Derived.Test.YtnhakbpalfcmfaaDoorSums
namespace Go.Proofs.YtnhakbpalfcmfaaDoor
open Go.RowKit
/-- the memory of the document's Make: the shard, and the object that is told -/
structure RkW (c o : Array Value) (w W : World) : Prop where
  hs : Has W w.heap.size c 33
  ho : Has W (w.heap.size + 1) o 27
  bl : Below w.heap.size w W
theorem RkW.start (w : World) (c o : Array Value) {W : World} (h : Below ((w.alloc (.cells c 33)).alloc (.cells o 27)).heap.size ((w.alloc (.cells c 33)).alloc (.cells o 27)) W) : RkW c o w W := by
  obtain ⟨h1, h2, h3, h4⟩ := two_new w c o 33 27
  exact ⟨h1.below h (by omega), h2.below h (by omega), belowCall h3 h⟩
theorem RkW.next {c o : Array Value} {w W W' : World} (h : RkW c o w W) (hb : Below W.heap.size W W') : RkW c o w W' :=
  ⟨h.hs.below hb h.hs.lt, h.ho.below hb h.ho.lt, belowCall h.bl hb⟩
set_option maxRecDepth 20000 in
theorem refMake_arg (K N : Int) (d : ByteArray) (i : Int) (p : ByteArray) (h : okS K N d i = false) (w : World) :
    Calls Tryd.prog 8 #[.agg (shc K N d i p)] w fun e w' => e = .returned (.tuple #[obv ⟨#[]⟩ ⟨#[]⟩, .int .i64 1]) ∧ Below w.heap.size w w' := by
  unfold shc
  go_enter Tryd.func8, Tryd.ntmps8
  go_wp2_with fail
  refine (refCode_any K N _).mono ?_
  rintro e w1 ⟨rfl, b1⟩
  have M1 : RkW (shc K N d i p) noO w w1 := RkW.start w _ _ b1
  clear b1
  obtain ⟨c0, c1, c2, c3, c4⟩ := shc_cells M1.hs
  obtain ⟨r0, r1, f0, f1⟩ := obj_cells M1.ho
  by_cases h1 : okC K N = true
  · have h2 : Hid ((decide (d.size = 32) && (decide (0 ≤ i) && decide (i < N))) = false) := by
      unfold okS at h; rw [h1, Bool.true_and] at h; exact h
    rw [h1]
    by_cases hd : d.size = 32
    · have q1 : ((d.size : Int) != 32) = false := by rw [hd]; rfl
      have q2 : (decide (0 ≤ i) && decide (i < N)) = false := by have := h2.out; rw [hd] at this; simpa using this
      by_cases h3 : i < 0
      · clear q2 h2
        go_wp2_with fail
        exact ret_obj Tryd.results8 rfl rfl rfl (obj_put M1.ho _ _) ⟨rfl, below_put M1.bl (by omega) _ _⟩
      · have h4 : N ≤ i := by
          have h3' : 0 ≤ i := by omega
          simp only [h3', decide_true, Bool.true_and, decide_eq_false_iff_not] at q2
          omega
        clear q2 h2
        go_wp2_with fail
        exact ret_obj Tryd.results8 rfl rfl rfl (obj_put M1.ho _ _) ⟨rfl, below_put M1.bl (by omega) _ _⟩
    · have q1 : ((d.size : Int) != 32) = true := by rw [bne_iff_ne]; omega
      go_wp2_with fail
      exact ret_obj Tryd.results8 rfl rfl rfl (obj_put M1.ho _ _) ⟨rfl, below_put M1.bl (by omega) _ _⟩
  · have h1 : okC K N = false := by simpa using h1
    rw [h1]
    go_wp2_with fail
    exact ret_obj Tryd.results8 rfl rfl rfl (obj_put M1.ho _ _) ⟨rfl, below_put M1.bl (by omega) _ _⟩
set_option maxRecDepth 20000 in
theorem refMake_big (K N : Int) (d : ByteArray) (i : Int) (p : ByteArray) (h : okS K N d i = true) (hp : 65461 < p.size) (w : World) :
    Calls Tryd.prog 8 #[.agg (shc K N d i p)] w fun e w' => e = .returned (.tuple #[obv ⟨#[]⟩ ⟨#[]⟩, .int .i64 40]) ∧ Below w.heap.size w w' := by
  unfold okS at h
  simp only [Bool.and_eq_true, decide_eq_true_eq] at h
  obtain ⟨⟨h1, hd⟩, h2, h3⟩ := h
  have q0 : (65461 : Int) < (p.size : Int) := by omega
  unfold shc
  go_enter Tryd.func8, Tryd.ntmps8
  go_wp2_with fail
  refine (refCode_any K N _).mono ?_
  rintro e w1 ⟨rfl, b1⟩
  have M1 : RkW (shc K N d i p) noO w w1 := RkW.start w _ _ b1
  clear b1
  obtain ⟨c0, c1, c2, c3, c4⟩ := shc_cells M1.hs
  obtain ⟨r0, r1, f0, f1⟩ := obj_cells M1.ho
  rw [h1]
  have q1 : ((d.size : Int) != 32) = false := by rw [hd]; rfl
  go_wp2_with fail
  exact ret_obj Tryd.results8 rfl rfl rfl (obj_put M1.ho _ _) ⟨rfl, below_put M1.bl (by omega) _ _⟩
set_option maxRecDepth 20000 in
theorem refMake_ok (K N : Int) (d : ByteArray) (i : Int) (p : ByteArray) (h : okS K N d i = true) (hp : p.size ≤ 65461) (w : World) :
    Calls Tryd.prog 8 #[.agg (shc K N d i p)] w fun e w' => e = .returned (.tuple #[obv (ofBs (nm (bs d) i)) (ofBs (dat K.toNat N.toNat i.toNat (bs d) (bs p))), .int .i64 0]) ∧ Below w.heap.size w w' := by
  unfold okS at h
  simp only [Bool.and_eq_true, decide_eq_true_eq] at h
  obtain ⟨⟨h1, hd⟩, h2, h3⟩ := h
  have h1' := h1
  simp only [okC, Bool.and_eq_true, decide_eq_true_eq] at h1'
  obtain ⟨⟨h4, h5⟩, h6⟩ := h1'
  have q0 : ¬ (65461 : Int) < (p.size : Int) := by omega
  obtain ⟨k, rfl⟩ := Int.eq_ofNat_of_zero_le (show 0 ≤ K by omega)
  obtain ⟨n, rfl⟩ := Int.eq_ofNat_of_zero_le (show 0 ≤ N by omega)
  obtain ⟨j, rfl⟩ := Int.eq_ofNat_of_zero_le h2
  simp only [Int.toNat_natCast]
  have HC : ∀ w : World, (convert 43 9 (.slice (some ⟨w.heap.size, 0, none⟩) 7 7)).run Tryd.prog (w.alloc (.cells #[.int .u8 (k : Int), .int .u8 (n : Int), .int .u8 (j : Int), .int .u8 0, .int .u8 ((p.size : Int) / 65536), .int .u8 ((p.size : Int) / 256 % 256), .int .u8 ((p.size : Int) % 256)] 5)) = .ok (.string (ofBs [k, n, j, 0, p.size / 65536, p.size / 256 % 256, p.size % 256])) (w.alloc (.cells #[.int .u8 (k : Int), .int .u8 (n : Int), .int .u8 (j : Int), .int .u8 0, .int .u8 ((p.size : Int) / 65536), .int .u8 ((p.size : Int) / 256 % 256), .int .u8 ((p.size : Int) % 256)] 5)) := fun w =>
    conv_str _ _ [k, n, j, 0, p.size / 65536, p.size / 256 % 256, p.size % 256] 5 7 (Has.new _ _ _ _ rfl)
  have hB : (ofBs [k, n, j, 0, p.size / 65536, p.size / 256 % 256, p.size % 256]).size = 7 := ofBs_size _
  have EP : Hid ((⟨#[115, 104, 100, 49]⟩ : ByteArray) ++ ofBs [k, n, j, 0, p.size / 65536, p.size / 256 % 256, p.size % 256] ++ d ++ p = ofBs (pre k n j (bs d) (bs p))) := by
    unfold Hid pre be4
    rw [bs_length, ofBs_append, ofBs_append, ofBs_bs, ofBs_bs, ofBs_append, ofBs_append, ByteArray.append_assoc (a := ofBs [115, 104, 100, 49]), ← ofBs_append [k, n, j]]
    have e1 : p.size / 16777216 % 256 = 0 := by omega
    have e2 : p.size / 65536 % 256 = p.size / 65536 := by omega
    rw [e1, e2]; rfl
  have hPl : (ofBs (pre k n j (bs d) (bs p))).size = 43 + p.size := by
    rw [ofBs_size]; unfold pre be4; simp [bs_length, hd]; omega
  have hPlt : ∀ x ∈ pre k n j (bs d) (bs p), x < 256 := by
    intro x hx
    unfold pre be4 at hx
    simp only [List.mem_append, List.mem_cons, List.not_mem_nil, or_false] at hx
    rcases hx with (((hx | hx) | hx) | hx) | hx
    · omega
    · omega
    · omega
    · exact bs_lt d x hx
    · exact bs_lt p x hx
  have hbP := bs_ofBs _ hPlt
  have ED : Hid (ofBs (pre k n j (bs d) (bs p)) ++ ofBs (Sha.digest (pre k n j (bs d) (bs p))) = ofBs (dat k n j (bs d) (bs p))) := by
    unfold Hid dat; rw [ofBs_append]
  have hDl : (ofBs (Sha.digest (pre k n j (bs d) (bs p)))).size = 32 := by rw [ofBs_size, digest_length]
  have HS : Hid (∀ w, Calls Tryd.prog 20 #[.string (ofBs (pre k n j (bs d) (bs p)))] w fun e w' => e = .returned (.string (ofBs (Sha.digest (pre k n j (bs d) (bs p))))) ∧ Below w.heap.size w w') := by
    intro w
    have := refSum_any (ofBs (pre k n j (bs d) (bs p))) (by omega) w
    rw [hbP] at this; exact this
  clear hPlt hbP
  generalize ofBs [k, n, j, 0, p.size / 65536, p.size / 256 % 256, p.size % 256] = B at *
  generalize ofBs (dat k n j (bs d) (bs p)) = Y at *
  generalize ofBs (Sha.digest (pre k n j (bs d) (bs p))) = D at *
  generalize ofBs (pre k n j (bs d) (bs p)) = A at *
  have HN : Hid (∀ w, Calls Tryd.prog 14 #[.string d, .int .i64 (j : Int)] w fun e w' => e = .returned (.string (ofBs (nm (bs d) j))) ∧ Below w.heap.size w w') := fun w => refName_any d j (by omega) (by omega) (by omega) w
  generalize ofBs (nm (bs d) (j : Int)) = X at *
  have s1 : ¬ 9223372036854775807 < 4 + B.size := by omega
  have s2 : ¬ 9223372036854775807 < 4 + B.size + d.size := by omega
  have s3 : ¬ 9223372036854775807 < 4 + B.size + d.size + p.size := by omega
  have s4 : ¬ 9223372036854775807 < A.size + D.size := by omega
  clear hB hPl hDl
  unfold shc
  go_enter Tryd.func8, Tryd.ntmps8
  go_wp2_with fail
  refine (refCode_any k n _).mono ?_
  rintro e w1 ⟨rfl, b1⟩
  have M1 : RkW (shc k n d j p) noO w w1 := RkW.start w _ _ b1
  clear b1
  obtain ⟨c0, c1, c2, c3, c4⟩ := shc_cells M1.hs
  have d2 := fun o => (shc_cells (M1.hs.alloc o)).2.2.1
  have d3 := fun o => (shc_cells (M1.hs.alloc o)).2.2.2.1
  have d4 := fun o => (shc_cells (M1.hs.alloc o)).2.2.2.2
  rw [h1]
  have q1 : ((d.size : Int) != 32) = false := by rw [hd]; rfl
  go_wp2_with fail
  refine (HN.out _).mono ?_
  rintro e w2 ⟨rfl, b2⟩
  have M2 : RkW (shc k n d j p) noO w w2 := (M1.next ((Below.refl _ _).alloc (Nat.le_refl _) _)).next b2
  rw [EP.out]
  clear b2 M1 c0 c1 c2 c3 c4 d2 d3 d4 HC s1 s2 s3 HN EP
  go_wp2_with fail
  refine (HS.out _).mono ?_
  rintro e w3 ⟨rfl, b3⟩
  have M3 := M2.next b3
  obtain ⟨r0, r1, f0, f1⟩ := obj_cells M3.ho
  clear M2 b3 HS
  go_wp2_with fail
  rw [ED.out]
  exact ret_obj Tryd.results8 rfl rfl rfl (obj_put M3.ho _ _) ⟨rfl, below_put M3.bl (by omega) _ _⟩
/-- THE DOCUMENT's MAKE. -/
theorem refMake_any (K N : Int) (d : ByteArray) (i : Int) (p : ByteArray) (w : World) :
    Calls Tryd.prog 8 #[.agg (shc K N d i p)] w fun e w' => e = .returned (mkV K N d i p) ∧ Below w.heap.size w w' := by
  unfold mkV mkN mkD mkE
  by_cases h : okS K N d i = true
  · by_cases hp : p.size ≤ 65461
    · simp only [h, hp, if_true]
      exact refMake_ok K N d i p h hp w
    · simp only [h, hp, if_true, if_false]
      exact refMake_big K N d i p h (by omega) w
  · have h' : okS K N d i = false := by simpa using h
    simp only [h', Bool.false_eq_true, if_false]
    exact refMake_arg K N d i p h' w
end Go.Proofs.YtnhakbpalfcmfaaDoor
