/- The contract of begins, where it answers yes. -/
import Derived.Test.YtpddjbiajagkaaaDoorMany
namespace Go.Proofs.YtpddjbiajagkaaaDoor
open Go.RowKit
theorem digest_lt (l : List Nat) : ∀ x ∈ Sha.digest l, x < 256 := Sha.tells_lt _
theorem digest_length (l : List Nat) : (Sha.digest l).length = 32 := by
  unfold Sha.digest Sha.tell; rw [Sha.tells_length]; rfl
theorem bs_extract (s : ByteArray) (a b : Nat) : bs (s.extract a b) = ((bs s).take b).drop a := by
  have e : (s.extract a b).data.toList = (s.data.toList.take b).drop a := by
    rw [ByteArray.data_extract, Array.toList_extract, List.extract_eq_take_drop, List.drop_take]
  unfold bs; rw [e, List.map_drop, List.map_take]
set_option maxRecDepth 20000 in
set_option maxHeartbeats 1000000 in
theorem begins_true (s f la : ByteArray) (hs : s.size ≤ 900000000000) (hf : f.size ≤ 64) (hla : la.size ≤ 64) (w : World) (ht : Tabs w)
    (h1 : (Sha.hex (Sha.digest (bs s))).take f.size = bs f) (h2 : (Sha.hex (Sha.digest (bs s))).drop (64 - la.size) = bs la) :
    Calls Tryd.prog 8 #[.string s, .string f, .string la] w fun e w' => e = .returned (.bool true) ∧ Below w.heap.size w w' := by
  have hxs : (ofBs (Sha.hex (Sha.digest (bs s)))).size = 64 := by rw [ofBs_size, hex_length, digest_length]
  have hbx : bs (ofBs (Sha.hex (Sha.digest (bs s)))) = Sha.hex (Sha.digest (bs s)) := bs_ofBs _ (hex_lt _ (digest_lt _))
  have e1 : (ofBs (Sha.hex (Sha.digest (bs s)))).extract 0 f.size = f := by
    apply bs_inj; rw [bs_extract, hbx, h1]; rfl
  have e2 : (ofBs (Sha.hex (Sha.digest (bs s)))).extract (64 - la.size) 64 = la := by
    apply bs_inj
    rw [bs_extract, hbx, List.take_of_length_le (by rw [hex_length, digest_length]; exact Nat.le_refl _), h2]
  have E1 : Hid _ := e1
  have E2 : Hid _ := e2
  have hsz : (ofBs (Sha.digest (bs s))).size ≤ 900000000000 := by rw [ofBs_size, digest_length]; omega
  clear e1 e2 h1 h2 hbx
  go_enter Tryd.func8, Tryd.ntmps8
  go_wp2_with fail
  refine (sum_any w ht s hs).mono ?_
  rintro e w1 ⟨rfl, b1⟩
  go_wp2_with fail
  refine (hex_any _ hsz w1).mono ?_
  rintro e w2 ⟨rfl, b2⟩
  rw [bs_ofBs _ (digest_lt _)]
  generalize ofBs (Sha.hex (Sha.digest (bs s))) = X at *
  have i0 : (0 : Int) ≤ 64 - (la.size : Int) := by omega
  have i1 : 64 - (la.size : Int) ≤ (X.size : Int) := by omega
  have i2 : (f.size : Int) ≤ (X.size : Int) := by omega
  have q1 : ((X.extract 0 f.size).toList == f.toList) = true := by rw [E1.out]; simp
  have q2 : ((X.extract (64 - la.size) 64).toList == la.toList) = true := by rw [E2.out]; simp
  go_wp2_with fail
  go_ret
  exact ⟨rfl, belowCall b1 b2⟩
end Go.Proofs.YtpddjbiajagkaaaDoor
