/- The contract of the program's Find. -/
import Derived.Test.YtknddbmnciodaaaGreatPMay
import Derived.Test.YtknddbmnciodaaaGreatStand
import Derived.Test.YtknddbmnciodaaaGreatOwn
namespace Go.Proofs.YtknddbmnciodaaaGreat
open Go.RowKit Go.Lib Go.Sort
open Ix
set_option linter.unusedVariables false
/-- where a chunk stands, or how it is refused -/
def findV (C : List ByteArray) (P : List Pl) (d : ByteArray) : Pl × Int := if mayS C P = true then (match Ix.look d (C.zip P) with | some p => (p, 0) | none => (⟨⟨#[]⟩, 0, 0⟩, 5)) else (⟨⟨#[]⟩, 0, 0⟩, 4)
theorem may_rise {C : List ByteArray} {P : List Pl} (h : mayS C P = true) : RiseK C := by
  have h1 := mayS_iff.1 h
  have h2 := List.pairwise_map (f := Prod.fst) (l := C.zip P) (R := fun a b => lt a b = true)
  rw [zip_fst h1.1] at h2
  exact h2.2 h1.2.rise
theorem find_yes {C : List ByteArray} {P : List Pl} {d : ByteArray} (h : mayS C P = true) {i : Nat} (hi : i < C.length) (e : C.getD i ⟨#[]⟩ = d) : findV C P d = (P.getD i default, 0) := by
  have h1 := mayS_iff.1 h
  have hg := zip_get (C := C) (P := P) hi (by omega)
  unfold findV
  rw [if_pos h, (look_some h1.2.rise (d := d) (v := P.getD i default)).2 (by rw [← e]; exact List.mem_of_getElem? hg)]
theorem find_no {C : List ByteArray} {P : List Pl} {d : ByteArray} (h : mayS C P = true) (hd : d ∉ C) : findV C P d = (⟨⟨#[]⟩, 0, 0⟩, 5) := by
  unfold findV
  rw [if_pos h, look_none.2 (fun p hp e => hd (by rw [← e]; exact (List.of_mem_zip hp).1))]
theorem find_bad {C : List ByteArray} {P : List Pl} (d : ByteArray) (h : mayS C P = false) : findV C P d = (⟨⟨#[]⟩, 0, 0⟩, 4) := by
  unfold findV; rw [h]; rfl
set_option maxHeartbeats 8000000 in
theorem find_any (s : St) (a0 a1 a2 : Option Addr) (c0 c1 c2 : Nat) (d : ByteArray) (hn : s.C.length ≤ 100000) (hn2 : s.P.length ≤ 100000) (w : World) (hC : Tx w a1 s.C) (hP : Ps w a2 s.P) :
    Calls Tryz.prog 11 #[.agg (stV s a0 a1 a2 c0 c1 c2), .string d] w fun e w' => e = .returned (.tuple #[.agg (pl3 (findV s.C s.P d).1).toArray, .int .i64 (findV s.C s.P d).2]) ∧ RowKit.Below w.heap.size w w' := by
  obtain ⟨b, hb⟩ : ∃ b, b = w.heap.size := ⟨_, rfl⟩
  obtain ⟨w1, hw1⟩ : ∃ w1, w1 = (w.alloc (.cells (stV s a0 a1 a2 c0 c1 c2) 35)).alloc (.cells #[.string ⟨#[]⟩, .int .i64 0, .int .i64 0] 24) := ⟨_, rfl⟩
  have hB : RowKit.Below w.heap.size w w1 := by rw [hw1]; exact ((RowKit.Below.refl _ w).alloc (Nat.le_refl _) _).alloc (by simp) _
  have n1 : Has w1 b (stV s a0 a1 a2 c0 c1 c2) 35 := by rw [hw1]; exact (Has.new w _ _ _ hb).alloc _
  have n2 : Has w1 (b + 1) #[.string ⟨#[]⟩, .int .i64 0, .int .i64 0] 24 := by rw [hw1]; exact Has.new _ _ _ _ (by simp [hb])
  have HN1 := hid (fun W (hW : RowKit.Below w1.heap.size w1 W) => n1.below hW n1.lt)
  have HN2 := hid (fun W (hW : RowKit.Below w1.heap.size w1 W) => n2.below hW n2.lt)
  have C0 := may_any s a0 a1 a2 c0 c1 c2 hn hn2 w1 (hC.below hB) (hP.below hB)
  have HC1 := hid (fun (h : mayS s.C s.P = true) W (hW : RowKit.Below w1.heap.size w1 W) => standing_any s.C a1 c1 d (may_rise h) hn W ((hC.below hB).below hW))
  have HPs := hid (hP.below hB)
  have HB := hid hB
  have HBW := hid hb
  have k0 : w1.cell? ⟨b, 0, none⟩ = some (.int .i64 s.k) := by rw [n1.cell]; rfl
  have k1 : w1.cell? ⟨b, 1, none⟩ = some (.int .i64 s.n) := by rw [n1.cell]; rfl
  have k2 : w1.cell? ⟨b, 2, none⟩ = some (.int .i64 s.nx) := by rw [n1.cell]; rfl
  have k3 : w1.cell? ⟨b, 3, none⟩ = some (.slice a0 s.sn.length c0) := by rw [n1.cell]; rfl
  have k4 : w1.cell? ⟨b, 4, none⟩ = some (.slice a1 s.C.length c1) := by rw [n1.cell]; rfl
  have k5 : w1.cell? ⟨b, 5, none⟩ = some (.slice a2 s.P.length c2) := by rw [n1.cell]; rfl
  have HK := hid (fun W (hW : RowKit.Below w1.heap.size w1 W) => (show (W.cell? ⟨b, 4, none⟩ = some (.slice a1 s.C.length c1) ∧ W.cell? ⟨b, 5, none⟩ = some (.slice a2 s.P.length c2) ∧ W.cell? ⟨b + 1, 0, none⟩ = some (.string ⟨#[]⟩) ∧ W.cell? ⟨b + 1, 1, none⟩ = some (.int .i64 0) ∧ W.cell? ⟨b + 1, 2, none⟩ = some (.int .i64 0) ∧ W.frozen? ⟨b + 1, 0, none⟩ = false ∧ W.frozen? ⟨b + 1, 1, none⟩ = false ∧ W.frozen? ⟨b + 1, 2, none⟩ = false) from by
    have m1 := n1.below hW n1.lt
    have m2 := n2.below hW n2.lt
    exact ⟨by rw [m1.cell]; rfl, by rw [m1.cell]; rfl, by rw [m2.cell]; rfl, by rw [m2.cell]; rfl, by rw [m2.cell]; rfl, m2.frozen _, m2.frozen _, m2.frozen _⟩))
  clear hB n1 n2 hC hP
  change w1 = (w.alloc (.cells #[.int .i64 s.k, .int .i64 s.n, .int .i64 s.nx, .slice a0 s.sn.length c0, .slice a1 s.C.length c1, .slice a2 s.P.length c2] 35)).alloc (.cells #[.string ⟨#[]⟩, .int .i64 0, .int .i64 0] 24) at hw1
  show Calls Tryz.prog 11 #[.agg #[.int .i64 s.k, .int .i64 s.n, .int .i64 s.nx, .slice a0 s.sn.length c0, .slice a1 s.C.length c1, .slice a2 s.P.length c2], .string d] w _
  change Calls Tryz.prog 9 #[.agg #[.int .i64 s.k, .int .i64 s.n, .int .i64 s.nx, .slice a0 s.sn.length c0, .slice a1 s.C.length c1, .slice a2 s.P.length c2]] w1 _ at C0
  go_enter Tryz.func11, Tryz.ntmps11
  go_upto_region 1 with fail
  rw [← hw1, ← hb]
  clear hw1 hb
  go_wp2_with fail
  refine C0.mono ?_
  rintro e w2 ⟨rfl, b2⟩
  have B2 := hid b2
  have HB2 := hid (HB.out.trans (b2.mono HB.out.size))
  clear C0 b2 k0 k1 k2 k3 k4 k5
  obtain ⟨k4, k5, r0, r1, r2, f0, f1, f2⟩ := HK.out w2 B2.out
  cases hmay : mayS s.C s.P with
  | false =>
    have HF := hid (find_bad d hmay)
    have N2 := hid (HN2.out w2 B2.out)
    clear hmay HC1
    go_wp2_with fail
    refine ret_place (x := ⟨⟨#[]⟩, 0, 0⟩) Tryz.results11 rfl rfl rfl (put3 N2.out _ _ _) ⟨?_, below_put3 HB2.out (by have := HBW.out; omega) _ _ _⟩
    rw [HF.out]; rfl
  | true =>
    have C1 := HC1.out hmay w2 B2.out
    have HM := hid hmay
    clear hmay HC1
    go_wp2_with fail
    refine C1.mono ?_
    rintro e w3 ⟨⟨i, rfl, hi⟩, b3⟩
    have B3 := hid (B2.out.trans (b3.mono B2.out.size))
    have HB3 := hid (HB2.out.trans (b3.mono HB2.out.size))
    clear C1 b3 k4 k5 r0 r1 r2 f0 f1 f2
    obtain ⟨k4, k5, r0, r1, r2, f0, f1, f2⟩ := HK.out w3 B3.out
    cases hin : inC s.C d with
    | false =>
      have HF := hid (find_no HM.out (fun h => by rw [inC_yes h] at hin; cases hin))
      have N2 := hid (HN2.out w3 B3.out)
      clear hin hi
      go_wp2_with fail
      refine ret_place (x := ⟨⟨#[]⟩, 0, 0⟩) Tryz.results11 rfl rfl rfl (put3 N2.out _ _ _) ⟨?_, below_put3 HB3.out (by have := HBW.out; omega) _ _ _⟩
      rw [HF.out]; rfl
    | true =>
      obtain ⟨hi1, hi2⟩ := hi ((inC_iff _ _).1 hin)
      have hlp : i < s.P.length := by have := (mayS_iff.1 HM.out).1; omega
      have HF := hid (find_yes HM.out hi1 hi2)
      obtain ⟨g, o, rfl, hg, e1, e2, e3⟩ := ps_cell HPs.out B3.out hlp
      have hsz : (s.P.getD i default).pack.size = 32 := by
        have h1 := mayS_iff.1 HM.out
        exact (h1.2.places _ (List.mem_of_getElem? (zip_get hi1 hlp))).1
      obtain ⟨x, hx⟩ : ∃ x, x = s.P.getD i default := ⟨_, rfl⟩
      rw [← hx] at HF e1 e2 e3 hsz
      have C2 := fun W => own_any x (by omega) W
      change ∀ W, Calls Tryz.prog 33 #[.agg #[.string x.pack, .int .i64 x.at_, .int .i64 x.len]] W (fun e w' => e = .returned (.agg #[.string x.pack, .int .i64 x.at_, .int .i64 x.len]) ∧ _) at C2
      have j0 : (0 : Int) ≤ (i : Int) := by omega
      have j1 : (i : Int) < (s.P.length : Int) := by omega
      clear hx hin hi1 hi2 hg hsz hlp
      generalize hpl : s.P.length = pn at *
      clear hpl
      go_wp2_with fail
      refine (C2 _).mono ?_
      rintro e w4 ⟨rfl, b4⟩
      have B4 := hid (B3.out.trans (b4.mono B3.out.size))
      have HB4 := hid (HB3.out.trans (b4.mono HB3.out.size))
      clear C2 b4 k4 k5 r0 r1 r2 f0 f1 f2 e1 e2 e3
      obtain ⟨k4, k5, r0, r1, r2, f0, f1, f2⟩ := HK.out w4 B4.out
      have N2 := hid (HN2.out w4 B4.out)
      go_wp2_with fail
      refine ret_place (x := x) Tryz.results11 rfl rfl rfl (put3 N2.out _ _ _) ⟨?_, below_put3 HB4.out (by have := HBW.out; omega) _ _ _⟩
      rw [HF.out]; rfl
end Go.Proofs.YtknddbmnciodaaaGreat

