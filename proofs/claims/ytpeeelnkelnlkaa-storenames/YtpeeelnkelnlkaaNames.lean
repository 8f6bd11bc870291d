/- StoreNames: the closed statement. Printed by gen_names8.py. -/
import Derived.Test.YtpeeelnkelnlkaaWorks
import Derived.Test.YtpeeelnkelnlkaaFaults
import Derived.Test.YtpeeelnkelnlkaaRooms
import Derived.Test.YtpeeelnkelnlkaaRefuses
import Derived.Test.YtpeeelnkelnlkaaNothing
namespace Go.Proofs.Ytpeeelnkelnlkaa
open Go.RowKit Go.Maps
theorem st0_fit : Fit 100 st0 := fit_of (by decide +kernel)
def one (n d : ByteArray) : St := ⟨[(n, d)], [⟨n, none, some d⟩], false, none, none, true⟩
theorem put_badN {s : St} {n d : ByteArray} (h : 80 < n.size) : putS s n d = (1, s) := by
  unfold putS badName; simp [h]
theorem put_badD {s : St} {n d : ByteArray} (h : 65536 < d.size) : putS s n d = (1, s) := by
  unfold putS badName; simp [h]
theorem put_fresh {n d : ByteArray} (h : 0 < n.size ∧ n.size ≤ 80) (hd : d.size ≤ 65536) : putS st0 n d = (0, one n d) := by
  have e : badName n d = false := by
    unfold badName
    simp only [Bool.or_eq_false_iff, decide_eq_false_iff_not]
    omega
  unfold putS
  rw [e]
  rfl
theorem one_fit {n d : ByteArray} (h : 0 < n.size ∧ n.size ≤ 80) (hd : d.size ≤ 65536) : Fit 100 (one n d) := by
  refine ⟨by show 1 ≤ 100; decide, by show 1 ≤ 100; decide, ?_, ?_, ?_, ?_, ?_, ?_, ?_⟩
  · intro p hp; simp [one] at hp; subst hp; exact h.2
  · intro p hp; simp [one] at hp; subst hp; exact hd
  · intro p hp; simp [one] at hp; subst hp; exact h.2
  · intro p hp; simp [one] at hp; subst hp; exact Nat.zero_le _
  · intro p hp; simp [one] at hp; subst hp; exact hd
  · intro k hk; cases hk
  · intro k hk; cases hk
set_option maxHeartbeats 4000000 in
set_option maxRecDepth 20000 in
theorem names_true (w : World) : Calls Try.prog 3 #[] w fun e w' => e = .returned (.bool true) ∧ Below w.heap.size w w' := by
  go_enter Try.func3, Try.ntmps3
  go_wp2_with fail
  refine (works_true w).mono ?_
  rintro x w1 ⟨rfl, hb0⟩
  have HB := hid hb0
  clear hb0
  have H := Sts.start w1
  go_wp2_with fail
  refine (Sts.new H).mono ?_
  rintro x w2 ⟨b1, rfl, H⟩
  replace H : Sts w1 w2 [(b1, st0)] := H
  go_wp2_with fail
  refine (Sts.o H ⟨#[]⟩ ⟨#[]⟩).mono ?_
  rintro x w3 ⟨rfl, H⟩
  replace H : Sts w1 w3 [(b1, st0)] := H
  go_wp2_with fail
  refine (Sts.put H 0 rfl st0_fit (by decide) (e := 1) (s' := st0) (by decide +kernel)).mono ?_
  rintro x w4 ⟨rfl, H⟩
  replace H : Sts w1 w4 [(b1, st0)] := H
  go_wp2_with fail
  refine (Sts.many H 81 (by decide)).mono ?_
  rintro x w5 ⟨rfl, H⟩
  replace H : Sts w1 w5 [(b1, st0)] := H
  have hn81 := many_size 81
  generalize ofBs (List.replicate 81 0) = n81 at *
  have Hn81 := hid hn81
  clear hn81
  go_wp2_with fail
  refine (Sts.o H n81 ⟨#[]⟩).mono ?_
  rintro x w6 ⟨rfl, H⟩
  replace H : Sts w1 w6 [(b1, st0)] := H
  go_wp2_with fail
  refine (Sts.put H 0 rfl st0_fit (by decide) (put_badN (by rw [Hn81.out]; decide))).mono ?_
  rintro x w7 ⟨rfl, H⟩
  replace H : Sts w1 w7 [(b1, st0)] := H
  go_wp2_with fail
  refine (Sts.many H 65537 (by decide)).mono ?_
  rintro x w8 ⟨rfl, H⟩
  replace H : Sts w1 w8 [(b1, st0)] := H
  have hd7 := many_size 65537
  generalize ofBs (List.replicate 65537 0) = d7 at *
  have Hd7 := hid hd7
  clear hd7
  go_wp2_with fail
  refine (Sts.o H ⟨#[97]⟩ d7).mono ?_
  rintro x w9 ⟨rfl, H⟩
  replace H : Sts w1 w9 [(b1, st0)] := H
  go_wp2_with fail
  refine (Sts.put H 0 rfl st0_fit (by decide) (put_badD (by rw [Hd7.out]; decide))).mono ?_
  rintro x w10 ⟨rfl, H⟩
  replace H : Sts w1 w10 [(b1, st0)] := H
  go_wp2_with fail
  refine (Sts.many H 80 (by decide)).mono ?_
  rintro x w11 ⟨rfl, H⟩
  replace H : Sts w1 w11 [(b1, st0)] := H
  have hn80 := many_size 80
  generalize ofBs (List.replicate 80 0) = n80 at *
  have Hn80 := hid hn80
  clear hn80
  go_wp2_with fail
  refine (Sts.many H 65536 (by decide)).mono ?_
  rintro x w12 ⟨rfl, H⟩
  replace H : Sts w1 w12 [(b1, st0)] := H
  have hd6 := many_size 65536
  generalize ofBs (List.replicate 65536 0) = d6 at *
  have Hd6 := hid hd6
  clear hd6
  go_wp2_with fail
  refine (Sts.o H n80 d6).mono ?_
  rintro x w13 ⟨rfl, H⟩
  replace H : Sts w1 w13 [(b1, st0)] := H
  go_wp2_with fail
  have hK := put_fresh (n := n80) (d := d6) (by rw [Hn80.out]; decide) (by rw [Hd6.out]; decide)
  have HF := hid (one_fit (n := n80) (d := d6) (by rw [Hn80.out]; decide) (by rw [Hd6.out]; decide))
  have hK2 := hid hK
  clear hK
  refine (Sts.put H 0 rfl st0_fit (by decide) hK2.out).mono ?_
  rintro x w14 ⟨rfl, H⟩
  replace H : Sts w1 w14 [(b1, one n80 d6)] := H
  go_wp2_with fail
  refine (Sts.up H 0 rfl (y := true) rfl).mono ?_
  rintro x w15 ⟨rfl, H⟩
  replace H : Sts w1 w15 [(b1, one n80 d6)] := H
  go_wp2_with fail
  refine (Sts.sound H 0 rfl (y := true) rfl).mono ?_
  rintro x w16 ⟨rfl, H⟩
  replace H : Sts w1 w16 [(b1, one n80 d6)] := H
  go_wp2_with fail
  have HS := H.box #[.int .u8 0, .int .i64 (0), .int .i64 (0), .int .i64 (0), .int .i64 (0), .int .u8 8, .int .i64 (0), .int .i64 (0), .int .i64 (0), .int .i64 (0), .int .u8 2, .int .i64 (0), .int .i64 (-1), .int .i64 (0), .int .i64 (0), .int .u8 3, .int .i64 (0), .int .i64 (0), .int .i64 (-1), .int .i64 (0), .int .u8 3, .int .i64 (0), .int .i64 (0), .int .i64 (0), .int .i64 (256), .int .u8 1, .int .i64 (0), .int .i64 (0), .int .i64 (0), .int .i64 (-1), .int .u8 4, .int .i64 (0), .int .i64 (-1), .int .i64 (0), .int .i64 (0)] 32
  clear H
  refine wp_loop_rounds 8 ?_
  have c0 : (w16.alloc (.cells #[.int .u8 0, .int .i64 (0), .int .i64 (0), .int .i64 (0), .int .i64 (0), .int .u8 8, .int .i64 (0), .int .i64 (0), .int .i64 (0), .int .i64 (0), .int .u8 2, .int .i64 (0), .int .i64 (-1), .int .i64 (0), .int .i64 (0), .int .u8 3, .int .i64 (0), .int .i64 (0), .int .i64 (-1), .int .i64 (0), .int .u8 3, .int .i64 (0), .int .i64 (0), .int .i64 (0), .int .i64 (256), .int .u8 1, .int .i64 (0), .int .i64 (0), .int .i64 (0), .int .i64 (-1), .int .u8 4, .int .i64 (0), .int .i64 (-1), .int .i64 (0), .int .i64 (0)] 32)).cell? ⟨w16.heap.size, 0, none⟩ = some (.int .u8 0) := HS.has.cell 0
  have c1 : (w16.alloc (.cells #[.int .u8 0, .int .i64 (0), .int .i64 (0), .int .i64 (0), .int .i64 (0), .int .u8 8, .int .i64 (0), .int .i64 (0), .int .i64 (0), .int .i64 (0), .int .u8 2, .int .i64 (0), .int .i64 (-1), .int .i64 (0), .int .i64 (0), .int .u8 3, .int .i64 (0), .int .i64 (0), .int .i64 (-1), .int .i64 (0), .int .u8 3, .int .i64 (0), .int .i64 (0), .int .i64 (0), .int .i64 (256), .int .u8 1, .int .i64 (0), .int .i64 (0), .int .i64 (0), .int .i64 (-1), .int .u8 4, .int .i64 (0), .int .i64 (-1), .int .i64 (0), .int .i64 (0)] 32)).cell? ⟨w16.heap.size, 1, none⟩ = some (.int .i64 (0)) := HS.has.cell 1
  have c2 : (w16.alloc (.cells #[.int .u8 0, .int .i64 (0), .int .i64 (0), .int .i64 (0), .int .i64 (0), .int .u8 8, .int .i64 (0), .int .i64 (0), .int .i64 (0), .int .i64 (0), .int .u8 2, .int .i64 (0), .int .i64 (-1), .int .i64 (0), .int .i64 (0), .int .u8 3, .int .i64 (0), .int .i64 (0), .int .i64 (-1), .int .i64 (0), .int .u8 3, .int .i64 (0), .int .i64 (0), .int .i64 (0), .int .i64 (256), .int .u8 1, .int .i64 (0), .int .i64 (0), .int .i64 (0), .int .i64 (-1), .int .u8 4, .int .i64 (0), .int .i64 (-1), .int .i64 (0), .int .i64 (0)] 32)).cell? ⟨w16.heap.size, 2, none⟩ = some (.int .i64 (0)) := HS.has.cell 2
  have c3 : (w16.alloc (.cells #[.int .u8 0, .int .i64 (0), .int .i64 (0), .int .i64 (0), .int .i64 (0), .int .u8 8, .int .i64 (0), .int .i64 (0), .int .i64 (0), .int .i64 (0), .int .u8 2, .int .i64 (0), .int .i64 (-1), .int .i64 (0), .int .i64 (0), .int .u8 3, .int .i64 (0), .int .i64 (0), .int .i64 (-1), .int .i64 (0), .int .u8 3, .int .i64 (0), .int .i64 (0), .int .i64 (0), .int .i64 (256), .int .u8 1, .int .i64 (0), .int .i64 (0), .int .i64 (0), .int .i64 (-1), .int .u8 4, .int .i64 (0), .int .i64 (-1), .int .i64 (0), .int .i64 (0)] 32)).cell? ⟨w16.heap.size, 3, none⟩ = some (.int .i64 (0)) := HS.has.cell 3
  have c4 : (w16.alloc (.cells #[.int .u8 0, .int .i64 (0), .int .i64 (0), .int .i64 (0), .int .i64 (0), .int .u8 8, .int .i64 (0), .int .i64 (0), .int .i64 (0), .int .i64 (0), .int .u8 2, .int .i64 (0), .int .i64 (-1), .int .i64 (0), .int .i64 (0), .int .u8 3, .int .i64 (0), .int .i64 (0), .int .i64 (-1), .int .i64 (0), .int .u8 3, .int .i64 (0), .int .i64 (0), .int .i64 (0), .int .i64 (256), .int .u8 1, .int .i64 (0), .int .i64 (0), .int .i64 (0), .int .i64 (-1), .int .u8 4, .int .i64 (0), .int .i64 (-1), .int .i64 (0), .int .i64 (0)] 32)).cell? ⟨w16.heap.size, 4, none⟩ = some (.int .i64 (0)) := HS.has.cell 4
  rw [rounds_succ]
  go_wp2_with fail
  refine ((HS.below (boxed _ _)).strikes 0 rfl HF.out (by decide) (k := 0) (t := 0) (n := 0) (a := 0) (c := 0) (by decide) (by decide)).mono ?_
  clear HS c0 c1 c2 c3 c4
  rintro x w17 ⟨rfl, HS⟩
  replace HS : StsB w1 w17 [(b1, one n80 d6)] w16.heap.size #[.int .u8 0, .int .i64 (0), .int .i64 (0), .int .i64 (0), .int .i64 (0), .int .u8 8, .int .i64 (0), .int .i64 (0), .int .i64 (0), .int .i64 (0), .int .u8 2, .int .i64 (0), .int .i64 (-1), .int .i64 (0), .int .i64 (0), .int .u8 3, .int .i64 (0), .int .i64 (0), .int .i64 (-1), .int .i64 (0), .int .u8 3, .int .i64 (0), .int .i64 (0), .int .i64 (0), .int .i64 (256), .int .u8 1, .int .i64 (0), .int .i64 (0), .int .i64 (0), .int .i64 (-1), .int .u8 4, .int .i64 (0), .int .i64 (-1), .int .i64 (0), .int .i64 (0)] 32 := HS
  go_wp2_with fail
  have c5 : w17.cell? ⟨w16.heap.size, 5, none⟩ = some (.int .u8 8) := HS.has.cell 5
  have c6 : w17.cell? ⟨w16.heap.size, 6, none⟩ = some (.int .i64 (0)) := HS.has.cell 6
  have c7 : w17.cell? ⟨w16.heap.size, 7, none⟩ = some (.int .i64 (0)) := HS.has.cell 7
  have c8 : w17.cell? ⟨w16.heap.size, 8, none⟩ = some (.int .i64 (0)) := HS.has.cell 8
  have c9 : w17.cell? ⟨w16.heap.size, 9, none⟩ = some (.int .i64 (0)) := HS.has.cell 9
  rw [rounds_succ]
  go_wp2_with fail
  refine ((HS.below (boxed _ _)).strikes 0 rfl HF.out (by decide) (k := 8) (t := 0) (n := 0) (a := 0) (c := 0) (by decide) (by decide)).mono ?_
  clear HS c5 c6 c7 c8 c9
  rintro x w18 ⟨rfl, HS⟩
  replace HS : StsB w1 w18 [(b1, one n80 d6)] w16.heap.size #[.int .u8 0, .int .i64 (0), .int .i64 (0), .int .i64 (0), .int .i64 (0), .int .u8 8, .int .i64 (0), .int .i64 (0), .int .i64 (0), .int .i64 (0), .int .u8 2, .int .i64 (0), .int .i64 (-1), .int .i64 (0), .int .i64 (0), .int .u8 3, .int .i64 (0), .int .i64 (0), .int .i64 (-1), .int .i64 (0), .int .u8 3, .int .i64 (0), .int .i64 (0), .int .i64 (0), .int .i64 (256), .int .u8 1, .int .i64 (0), .int .i64 (0), .int .i64 (0), .int .i64 (-1), .int .u8 4, .int .i64 (0), .int .i64 (-1), .int .i64 (0), .int .i64 (0)] 32 := HS
  go_wp2_with fail
  have c10 : w18.cell? ⟨w16.heap.size, 10, none⟩ = some (.int .u8 2) := HS.has.cell 10
  have c11 : w18.cell? ⟨w16.heap.size, 11, none⟩ = some (.int .i64 (0)) := HS.has.cell 11
  have c12 : w18.cell? ⟨w16.heap.size, 12, none⟩ = some (.int .i64 (-1)) := HS.has.cell 12
  have c13 : w18.cell? ⟨w16.heap.size, 13, none⟩ = some (.int .i64 (0)) := HS.has.cell 13
  have c14 : w18.cell? ⟨w16.heap.size, 14, none⟩ = some (.int .i64 (0)) := HS.has.cell 14
  rw [rounds_succ]
  go_wp2_with fail
  refine ((HS.below (boxed _ _)).strikes 0 rfl HF.out (by decide) (k := 2) (t := 0) (n := -1) (a := 0) (c := 0) (by decide) (by decide)).mono ?_
  clear HS c10 c11 c12 c13 c14
  rintro x w19 ⟨rfl, HS⟩
  replace HS : StsB w1 w19 [(b1, one n80 d6)] w16.heap.size #[.int .u8 0, .int .i64 (0), .int .i64 (0), .int .i64 (0), .int .i64 (0), .int .u8 8, .int .i64 (0), .int .i64 (0), .int .i64 (0), .int .i64 (0), .int .u8 2, .int .i64 (0), .int .i64 (-1), .int .i64 (0), .int .i64 (0), .int .u8 3, .int .i64 (0), .int .i64 (0), .int .i64 (-1), .int .i64 (0), .int .u8 3, .int .i64 (0), .int .i64 (0), .int .i64 (0), .int .i64 (256), .int .u8 1, .int .i64 (0), .int .i64 (0), .int .i64 (0), .int .i64 (-1), .int .u8 4, .int .i64 (0), .int .i64 (-1), .int .i64 (0), .int .i64 (0)] 32 := HS
  go_wp2_with fail
  have c15 : w19.cell? ⟨w16.heap.size, 15, none⟩ = some (.int .u8 3) := HS.has.cell 15
  have c16 : w19.cell? ⟨w16.heap.size, 16, none⟩ = some (.int .i64 (0)) := HS.has.cell 16
  have c17 : w19.cell? ⟨w16.heap.size, 17, none⟩ = some (.int .i64 (0)) := HS.has.cell 17
  have c18 : w19.cell? ⟨w16.heap.size, 18, none⟩ = some (.int .i64 (-1)) := HS.has.cell 18
  have c19 : w19.cell? ⟨w16.heap.size, 19, none⟩ = some (.int .i64 (0)) := HS.has.cell 19
  rw [rounds_succ]
  go_wp2_with fail
  refine ((HS.below (boxed _ _)).strikes 0 rfl HF.out (by decide) (k := 3) (t := 0) (n := 0) (a := -1) (c := 0) (by decide) (by decide)).mono ?_
  clear HS c15 c16 c17 c18 c19
  rintro x w20 ⟨rfl, HS⟩
  replace HS : StsB w1 w20 [(b1, one n80 d6)] w16.heap.size #[.int .u8 0, .int .i64 (0), .int .i64 (0), .int .i64 (0), .int .i64 (0), .int .u8 8, .int .i64 (0), .int .i64 (0), .int .i64 (0), .int .i64 (0), .int .u8 2, .int .i64 (0), .int .i64 (-1), .int .i64 (0), .int .i64 (0), .int .u8 3, .int .i64 (0), .int .i64 (0), .int .i64 (-1), .int .i64 (0), .int .u8 3, .int .i64 (0), .int .i64 (0), .int .i64 (0), .int .i64 (256), .int .u8 1, .int .i64 (0), .int .i64 (0), .int .i64 (0), .int .i64 (-1), .int .u8 4, .int .i64 (0), .int .i64 (-1), .int .i64 (0), .int .i64 (0)] 32 := HS
  go_wp2_with fail
  have c20 : w20.cell? ⟨w16.heap.size, 20, none⟩ = some (.int .u8 3) := HS.has.cell 20
  have c21 : w20.cell? ⟨w16.heap.size, 21, none⟩ = some (.int .i64 (0)) := HS.has.cell 21
  have c22 : w20.cell? ⟨w16.heap.size, 22, none⟩ = some (.int .i64 (0)) := HS.has.cell 22
  have c23 : w20.cell? ⟨w16.heap.size, 23, none⟩ = some (.int .i64 (0)) := HS.has.cell 23
  have c24 : w20.cell? ⟨w16.heap.size, 24, none⟩ = some (.int .i64 (256)) := HS.has.cell 24
  rw [rounds_succ]
  go_wp2_with fail
  refine ((HS.below (boxed _ _)).strikes 0 rfl HF.out (by decide) (k := 3) (t := 0) (n := 0) (a := 0) (c := 256) (by decide) (by decide)).mono ?_
  clear HS c20 c21 c22 c23 c24
  rintro x w21 ⟨rfl, HS⟩
  replace HS : StsB w1 w21 [(b1, one n80 d6)] w16.heap.size #[.int .u8 0, .int .i64 (0), .int .i64 (0), .int .i64 (0), .int .i64 (0), .int .u8 8, .int .i64 (0), .int .i64 (0), .int .i64 (0), .int .i64 (0), .int .u8 2, .int .i64 (0), .int .i64 (-1), .int .i64 (0), .int .i64 (0), .int .u8 3, .int .i64 (0), .int .i64 (0), .int .i64 (-1), .int .i64 (0), .int .u8 3, .int .i64 (0), .int .i64 (0), .int .i64 (0), .int .i64 (256), .int .u8 1, .int .i64 (0), .int .i64 (0), .int .i64 (0), .int .i64 (-1), .int .u8 4, .int .i64 (0), .int .i64 (-1), .int .i64 (0), .int .i64 (0)] 32 := HS
  go_wp2_with fail
  have c25 : w21.cell? ⟨w16.heap.size, 25, none⟩ = some (.int .u8 1) := HS.has.cell 25
  have c26 : w21.cell? ⟨w16.heap.size, 26, none⟩ = some (.int .i64 (0)) := HS.has.cell 26
  have c27 : w21.cell? ⟨w16.heap.size, 27, none⟩ = some (.int .i64 (0)) := HS.has.cell 27
  have c28 : w21.cell? ⟨w16.heap.size, 28, none⟩ = some (.int .i64 (0)) := HS.has.cell 28
  have c29 : w21.cell? ⟨w16.heap.size, 29, none⟩ = some (.int .i64 (-1)) := HS.has.cell 29
  rw [rounds_succ]
  go_wp2_with fail
  refine ((HS.below (boxed _ _)).strikes 0 rfl HF.out (by decide) (k := 1) (t := 0) (n := 0) (a := 0) (c := -1) (by decide) (by decide)).mono ?_
  clear HS c25 c26 c27 c28 c29
  rintro x w22 ⟨rfl, HS⟩
  replace HS : StsB w1 w22 [(b1, one n80 d6)] w16.heap.size #[.int .u8 0, .int .i64 (0), .int .i64 (0), .int .i64 (0), .int .i64 (0), .int .u8 8, .int .i64 (0), .int .i64 (0), .int .i64 (0), .int .i64 (0), .int .u8 2, .int .i64 (0), .int .i64 (-1), .int .i64 (0), .int .i64 (0), .int .u8 3, .int .i64 (0), .int .i64 (0), .int .i64 (-1), .int .i64 (0), .int .u8 3, .int .i64 (0), .int .i64 (0), .int .i64 (0), .int .i64 (256), .int .u8 1, .int .i64 (0), .int .i64 (0), .int .i64 (0), .int .i64 (-1), .int .u8 4, .int .i64 (0), .int .i64 (-1), .int .i64 (0), .int .i64 (0)] 32 := HS
  go_wp2_with fail
  have c30 : w22.cell? ⟨w16.heap.size, 30, none⟩ = some (.int .u8 4) := HS.has.cell 30
  have c31 : w22.cell? ⟨w16.heap.size, 31, none⟩ = some (.int .i64 (0)) := HS.has.cell 31
  have c32 : w22.cell? ⟨w16.heap.size, 32, none⟩ = some (.int .i64 (-1)) := HS.has.cell 32
  have c33 : w22.cell? ⟨w16.heap.size, 33, none⟩ = some (.int .i64 (0)) := HS.has.cell 33
  have c34 : w22.cell? ⟨w16.heap.size, 34, none⟩ = some (.int .i64 (0)) := HS.has.cell 34
  rw [rounds_succ]
  go_wp2_with fail
  refine ((HS.below (boxed _ _)).strikes 0 rfl HF.out (by decide) (k := 4) (t := 0) (n := -1) (a := 0) (c := 0) (by decide) (by decide)).mono ?_
  clear HS c30 c31 c32 c33 c34
  rintro x w23 ⟨rfl, HS⟩
  replace HS : StsB w1 w23 [(b1, one n80 d6)] w16.heap.size #[.int .u8 0, .int .i64 (0), .int .i64 (0), .int .i64 (0), .int .i64 (0), .int .u8 8, .int .i64 (0), .int .i64 (0), .int .i64 (0), .int .i64 (0), .int .u8 2, .int .i64 (0), .int .i64 (-1), .int .i64 (0), .int .i64 (0), .int .u8 3, .int .i64 (0), .int .i64 (0), .int .i64 (-1), .int .i64 (0), .int .u8 3, .int .i64 (0), .int .i64 (0), .int .i64 (0), .int .i64 (256), .int .u8 1, .int .i64 (0), .int .i64 (0), .int .i64 (0), .int .i64 (-1), .int .u8 4, .int .i64 (0), .int .i64 (-1), .int .i64 (0), .int .i64 (0)] 32 := HS
  go_wp2_with fail
  rw [rounds_succ]
  have H := hid (HB.out.trans (HS.sts.base.mono HB.out.size))
  clear HS
  go_wp2_with fail
  refine (faults_true _).mono ?_
  rintro x w24 ⟨rfl, hb⟩
  replace H := hid (H.out.trans (hb.mono H.out.size))
  clear hb
  go_wp2_with fail
  refine (rooms_true _).mono ?_
  rintro x w25 ⟨rfl, hb⟩
  replace H := hid (H.out.trans (hb.mono H.out.size))
  clear hb
  go_wp2_with fail
  refine (refuses_true _).mono ?_
  rintro x w26 ⟨rfl, hb⟩
  replace H := hid (H.out.trans (hb.mono H.out.size))
  clear hb
  go_wp2_with fail
  refine (nothing_true _).mono ?_
  rintro x w27 ⟨rfl, hb⟩
  replace H := hid (H.out.trans (hb.mono H.out.size))
  clear hb
  go_wp2_with fail
  go_ret
  exact ⟨rfl, H.out⟩
end Go.Proofs.Ytpeeelnkelnlkaa
