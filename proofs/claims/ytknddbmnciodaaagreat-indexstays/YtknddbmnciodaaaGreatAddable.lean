/- The contract of the program's addable: why chunks may not be added. -/
import Derived.Test.YtknddbmnciodaaaGreatFresh
import Derived.Test.YtknddbmnciodaaaGreatPMay
namespace Go.Proofs.YtknddbmnciodaaaGreat
open Go.RowKit Go.Lib Go.Sort
open Ix
set_option linter.unusedVariables false
/-- digests and places that may not be added to whatever state -/
def badA (D : List ByteArray) (Q : List Pl) : Bool := decide (D.length ≠ Q.length) || (decide (D.length = 0) || ((D.any fun s => decide (s.size ≠ 32)) || (Q.any fun p => !decide (mayP p))))
/-- the error, as far as it is told without the places that are there -/
def adE (C : List ByteArray) (P : List Pl) (D : List ByteArray) (Q : List Pl) : Int := if mayS C P = true then (if badA D Q = true then 1 else if frN C D D.length = true then (if 400 < C.length + D.length then 40 else 0) else 6) else 4
set_option maxHeartbeats 8000000 in
theorem addable_any (s : St) (a0 a1 a2 b1 b2 : Option Addr) (c0 c1 c2 d1 d2 : Nat) (D : List ByteArray) (Q : List Pl) (hn : s.C.length ≤ 100000) (hn2 : s.P.length ≤ 100000) (hm : D.length ≤ 100000) (hm2 : D.length = Q.length → Q.length ≤ 100000)
    (w : World) (hC : Tx w a1 s.C) (hP : Ps w a2 s.P) (hD : Tx w b1 D) (hQ : Ps w b2 Q) :
    Calls Tryz.prog 20 #[.agg (stV s a0 a1 a2 c0 c1 c2), .slice b1 D.length d1, .slice b2 Q.length d2] w fun e w' => e = .returned (.int .i64 (adE s.C s.P D Q)) ∧ RowKit.Below w.heap.size w w' := by
  obtain ⟨w1, hw1, hB, n1⟩ := box_state (w := w) s a0 a1 a2 c0 c1 c2
  have HK := hid (fun W (hb : RowKit.Below w1.heap.size w1 W) => n1.below hb n1.lt)
  have HC0 := hid (fun W (hb : RowKit.Below w1.heap.size w1 W) => may_any s a0 a1 a2 c0 c1 c2 hn hn2 W ((hC.below hB).below hb) ((hP.below hB).below hb))
  have HC1 := hid (fun W (hb : RowKit.Below w1.heap.size w1 W) => contS_any D b1 d1 hm W ((hD.below hB).below hb))
  have HE : Hid (decide (D.length ≠ Q.length) = false → D.length = Q.length) := hid (fun h => by simpa using h)
  have HC2 := hid (fun (he : D.length = Q.length) W (hb : RowKit.Below w1.heap.size w1 W) => contP_any Q b2 d2 (hm2 he) W ((hQ.below hB).below hb))
  have HC3 := hid (fun (hr : RiseK s.C) (hs : ∀ d ∈ D, d.size ≤ 1000000) W (hb : RowKit.Below w1.heap.size w1 W) => fresh_any s.C D a1 b1 c1 d1 hr hn hm hs W ((hC.below hB).below hb) ((hD.below hB).below hb))
  have HR : Hid (mayS s.C s.P = true → RiseK s.C) := hid (fun h => by
    have h1 := mayS_iff.1 h
    have h2 := List.pairwise_map (f := Prod.fst) (l := s.C.zip s.P) (R := fun a b => lt a b = true)
    rw [zip_fst h1.1] at h2
    exact h2.2 h1.2.rise)
  have HZ : Hid ((D.any fun s => decide (s.size ≠ 32)) = false → ∀ d ∈ D, d.size ≤ 1000000) := hid (fun h d hd => by
    have := List.any_eq_false.1 h d hd
    simp at this; omega)
  have HB := hid hB
  have n2 := HK.out w1 (RowKit.Below.refl _ _)
  have k0 : w1.cell? ⟨w.heap.size, 0, none⟩ = some (.int .i64 s.k) := by rw [n2.cell]; rfl
  have k1 : w1.cell? ⟨w.heap.size, 1, none⟩ = some (.int .i64 s.n) := by rw [n2.cell]; rfl
  have k2 : w1.cell? ⟨w.heap.size, 2, none⟩ = some (.int .i64 s.nx) := by rw [n2.cell]; rfl
  have k3 : w1.cell? ⟨w.heap.size, 3, none⟩ = some (.slice a0 s.sn.length c0) := by rw [n2.cell]; rfl
  have k4 : w1.cell? ⟨w.heap.size, 4, none⟩ = some (.slice a1 s.C.length c1) := by rw [n2.cell]; rfl
  have k5 : w1.cell? ⟨w.heap.size, 5, none⟩ = some (.slice a2 s.P.length c2) := by rw [n2.cell]; rfl
  clear hB n1 n2 hC hP hD hQ
  unfold adE badA
  show Calls Tryz.prog 20 #[.agg #[.int .i64 s.k, .int .i64 s.n, .int .i64 s.nx, .slice a0 s.sn.length c0, .slice a1 s.C.length c1, .slice a2 s.P.length c2], .slice b1 D.length d1, .slice b2 Q.length d2] w _
  change Hid (∀ W, RowKit.Below w1.heap.size w1 W → Calls Tryz.prog 9 #[.agg #[.int .i64 s.k, .int .i64 s.n, .int .i64 s.nx, .slice a0 s.sn.length c0, .slice a1 s.C.length c1, .slice a2 s.P.length c2]] W _) at HC0
  change w1 = w.alloc (.cells #[.int .i64 s.k, .int .i64 s.n, .int .i64 s.nx, .slice a0 s.sn.length c0, .slice a1 s.C.length c1, .slice a2 s.P.length c2] 35) at hw1
  have C0 := HC0.out w1 (RowKit.Below.refl _ _)
  have HK4 := hid (fun W (hb : RowKit.Below w1.heap.size w1 W) => show W.cell? ⟨w.heap.size, 4, none⟩ = some (.slice a1 s.C.length c1) by rw [(HK.out W hb).cell]; rfl)
  clear HC0 HK
  generalize mayS s.C s.P = x0 at *
  generalize (D.any fun s => decide (s.size ≠ 32)) = x1 at *
  generalize (Q.any fun p => !decide (mayP p)) = x2 at *
  generalize frN s.C D D.length = x3 at *
  generalize s.C.length = n at *
  generalize D.length = m at *
  generalize Q.length = m2 at *
  generalize s.P.length = p at *
  generalize s.sn.length = r at *
  generalize s.k = k at *
  generalize s.n = kn at *
  generalize s.nx = kx at *
  have z1 : ((m : Int) != (m2 : Int)) = decide (m ≠ m2) := by
    rw [Bool.eq_iff_iff, bne_iff_ne, decide_eq_true_eq]; omega
  have z2 : ((m : Int) == 0) = decide (m = 0) := by
    rw [Bool.eq_iff_iff, beq_iff_eq, decide_eq_true_eq]; omega
  generalize decide (m ≠ m2) = y1 at *
  generalize decide (m = 0) = y2 at *
  go_enter Tryz.func20, Tryz.ntmps20
  go_wp2_with fail
  rw [← hw1]
  clear hw1
  refine C0.mono ?_
  rintro e w2 ⟨rfl, b2⟩
  have B2 := hid b2
  have HB2 := hid (HB.out.trans (b2.mono HB.out.size))
  clear k0 k1 k2 k3 k4 k5 C0 b2
  cases x0 with
  | false =>
    go_wp2_with fail
    go_ret
    exact ⟨rfl, HB2.out⟩
  | true =>
    have HR' := hid (HR.out rfl)
    clear HR
    cases y1 with
    | false =>
      cases y2 with
      | true =>
        go_wp2_with fail
        go_ret
        exact ⟨rfl, HB2.out⟩
      | false =>
        go_wp2_with fail
        refine (HC1.out _ B2.out).mono ?_
        rintro e w3 ⟨rfl, b3⟩
        have B3 := hid (B2.out.trans (b3.mono B2.out.size))
        have HB3 := hid (HB2.out.trans (b3.mono HB2.out.size))
        clear b3 B2 HB2 HC1
        cases x1 with
        | true =>
          go_wp2_with fail
          go_ret
          exact ⟨rfl, HB3.out⟩
        | false =>
          have HZ' := hid (HZ.out rfl)
          clear HZ
          go_wp2_with fail
          refine (HC2.out (HE.out (by first | rfl | trivial)) _ B3.out).mono ?_
          rintro e w4 ⟨rfl, b4⟩
          have B4 := hid (B3.out.trans (b4.mono B3.out.size))
          have HB4 := hid (HB3.out.trans (b4.mono HB3.out.size))
          have k4 := HK4.out _ B4.out
          clear b4 B3 HB3 HC2
          cases x2 with
          | true =>
            go_wp2_with fail
            go_ret
            exact ⟨rfl, HB4.out⟩
          | false =>
            go_wp2_with fail
            refine (HC3.out HR'.out HZ'.out _ B4.out).mono ?_
            rintro e w5 ⟨rfl, b5⟩
            have B5 := hid (B4.out.trans (b5.mono B4.out.size))
            have HB5 := hid (HB4.out.trans (b5.mono HB4.out.size))
            have k4' := HK4.out _ B5.out
            clear b5 B4 HB4 HC3 k4
            cases x3 with
            | false =>
              go_wp2_with fail
              go_ret
              exact ⟨rfl, HB5.out⟩
            | true =>
              have wa : IntKind.i64.wrap ((n : Int) + (m : Int)) = ((n + m : Nat) : Int) := by rw [IntKind.wrap_i64]; omega
              by_cases h3 : 400 < n + m
              · have i3 : (400 : Int) < ((n + m : Nat) : Int) := by omega
                go_wp2_with fail
                go_ret
                exact ⟨rfl, HB5.out⟩
              · have i3 : ¬ (400 : Int) < ((n + m : Nat) : Int) := by omega
                go_wp2_with fail
                go_ret
                exact ⟨rfl, HB5.out⟩
    | true =>
      go_wp2_with fail
      go_ret
      exact ⟨rfl, HB2.out⟩
end Go.Proofs.YtknddbmnciodaaaGreat

