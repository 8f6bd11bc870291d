/- The calls, as the two walks meet them. -/
import Derived.Test.YtknddbmnciodaaaGreatSNum
namespace Go.Proofs.YtknddbmnciodaaaGreat
open Go.RowKit
open Ix
set_option linter.unusedVariables false
section
variable {s : St} {a0 a1 a2 : Option Addr} {c0 c1 c2 : Nat} {w : World}
theorem find_is (d : ByteArray) (p : Pl) (er : Int) (h : findV s.C s.P d = (p, er)) (hn : s.C.length ≤ 100000) (hn2 : s.P.length ≤ 100000) (hC : Tx w a1 s.C) (hP : Ps w a2 s.P) :
    Calls Tryz.prog 11 #[.agg (stV s a0 a1 a2 c0 c1 c2), .string d] w fun e w' => e = .returned (.tuple #[.agg (pl3 p).toArray, .int .i64 er]) ∧ Below w.heap.size w w' := by
  have := find_any s a0 a1 a2 c0 c1 c2 d hn hn2 w hC hP
  rw [h] at this
  exact this
theorem addS_ll (s : St) (D : List ByteArray) (Q : List Pl) : (addS s D Q).C.length = (addS s D Q).P.length := by
  show ((addL s.C s.P D Q).map Prod.fst).length = ((addL s.C s.P D Q).map Prod.snd).length
  rw [List.length_map, List.length_map]
theorem add_is {b1 b2 : Option Addr} {d1 d2 : Nat} (D : List ByteArray) (Q : List Pl) (t : St) (er : Int) (h : addR s.C s.P D Q = er) (ht : resS (addS s D Q) er = t) (hn : s.C.length ≤ 100000) (hn2 : s.P.length ≤ 100000) (hn3 : s.sn.length ≤ 100000) (hm : D.length ≤ 100000) (hm2 : D.length = Q.length → Q.length ≤ 100000)
    (hr : ∀ x ∈ s.sn, x.root.size ≤ 281474976710656) (hS : Sn w a0 s.sn) (hC : Tx w a1 s.C) (hP : Ps w a2 s.P) (hD : Tx w b1 D) (hQ : Ps w b2 Q) :
    Calls Tryz.prog 8 #[.agg (stV s a0 a1 a2 c0 c1 c2), .slice b1 D.length d1, .slice b2 Q.length d2] w fun e w' => ∃ u, e = .returned (.tuple #[u, .int .i64 er]) ∧ StAt w' u t ∧ Below w.heap.size w w' := by
  refine (add_any s a0 a1 a2 b1 b2 c0 c1 c2 d1 d2 D Q hn hn2 hn3 hm hm2 hr w hS hC hP hD hQ).mono ?_
  rintro e w' ⟨v, rfl, hg⟩
  rw [h] at hg ⊢
  exact ⟨_, rfl, ht ▸ hg.st (addS_ll s D Q), hg.below⟩
theorem drop_is {b1 : Option Addr} {d1 : Nat} (D : List ByteArray) (t : St) (er : Int) (h : droE s.C s.P D = er) (ht : resS (droS s D) er = t) (hn : s.C.length ≤ 100000) (hn2 : s.P.length ≤ 100000) (hn3 : s.sn.length ≤ 100000) (hm : D.length ≤ 100000)
    (hr : ∀ x ∈ s.sn, x.root.size ≤ 281474976710656) (hS : Sn w a0 s.sn) (hC : Tx w a1 s.C) (hP : Ps w a2 s.P) (hD : Tx w b1 D) :
    Calls Tryz.prog 12 #[.agg (stV s a0 a1 a2 c0 c1 c2), .slice b1 D.length d1] w fun e w' => ∃ u, e = .returned (.tuple #[u, .int .i64 er]) ∧ StAt w' u t ∧ Below w.heap.size w w' := by
  refine (drop_any s a0 a1 a2 b1 c0 c1 c2 d1 D hn hn2 hn3 hm hr w hS hC hP hD).mono ?_
  rintro e w' ⟨v, rfl, hg⟩
  rw [h] at hg ⊢
  exact ⟨_, rfl, ht ▸ hg.st (droS_len s D).2, hg.below⟩
theorem of_is (p : ByteArray) (l : List En) (er : Int) (h : ofE s.C s.P p = er) (hl : ofV s.C s.P p = l) (hn : s.C.length ≤ 100000) (hn2 : s.P.length ≤ 100000) (hC : Tx w a1 s.C) (hP : Ps w a2 s.P) :
    Calls Tryz.prog 14 #[.agg (stV s a0 a1 a2 c0 c1 c2), .string p] w fun e w' => ∃ u, e = .returned u ∧ KF (.two l er) u w' ∧ Below w.heap.size w w' := by
  refine (of_any s a0 a1 a2 c0 c1 c2 p hn hn2 w hC hP).mono ?_
  rintro e w' ⟨v1, v2, rfl, ⟨A1, A2, e1, e2, rfl, rfl, h1, h2⟩, hb⟩
  rw [h] at *
  rw [hl] at *
  exact ⟨_, rfl, ⟨A1, A2, e1, e2, rfl, h1, h2⟩, hb⟩
theorem cells6 {W : World} {b : Nat} {s : St} {a0 a1 a2 : Option Addr} {c0 c1 c2 : Nat} (hW : Has W b (stV s a0 a1 a2 c0 c1 c2) 35) : W.cell? ⟨b, 0, none⟩ = some (.int .i64 s.k) ∧ W.cell? ⟨b, 1, none⟩ = some (.int .i64 s.n) ∧ W.cell? ⟨b, 2, none⟩ = some (.int .i64 s.nx) ∧ W.cell? ⟨b, 3, none⟩ = some (.slice a0 s.sn.length c0) ∧ W.cell? ⟨b, 4, none⟩ = some (.slice a1 s.C.length c1) ∧ W.cell? ⟨b, 5, none⟩ = some (.slice a2 s.P.length c2) :=
  ⟨by rw [hW.cell]; rfl, by rw [hW.cell]; rfl, by rw [hW.cell]; rfl, by rw [hW.cell]; rfl, by rw [hW.cell]; rfl, by rw [hW.cell]; rfl⟩
/-- a place in a box -/
theorem cells3p {W : World} {b : Nat} {p : Pl} (hW : Has W b (pl3 p).toArray 24) : W.cell? ⟨b, 0, none⟩ = some (.string p.pack) ∧ W.cell? ⟨b, 1, none⟩ = some (.int .i64 p.at_) ∧ W.cell? ⟨b, 2, none⟩ = some (.int .i64 p.len) :=
  ⟨by rw [hW.cell]; rfl, by rw [hW.cell]; rfl, by rw [hW.cell]; rfl⟩
end
/-! the states of the examples -/
def sT1 : St := ⟨0, 0, 0, [], [dS 97], [⟨dS 112, 10, 5⟩]⟩
def sT2 : St := ⟨0, 0, 0, [], [dS 97, dS 98], [⟨dS 112, 10, 5⟩, ⟨dS 112, 15, 5⟩]⟩
def tL : List En := [(dS 97, ⟨dS 112, 10, 5⟩), (dS 98, ⟨dS 112, 15, 5⟩)]
instance : DecidableEq Pl := fun a b => if h : a.pack = b.pack ∧ a.at_ = b.at_ ∧ a.len = b.len then isTrue (by cases a; cases b; simp_all) else isFalse (fun e => h (by subst e; exact ⟨rfl, rfl, rfl⟩))
theorem st_ext {s t : St} (h1 : s.k = t.k) (h2 : s.n = t.n) (h3 : s.nx = t.nx) (h4 : s.sn = t.sn) (h5 : s.C = t.C) (h6 : s.P = t.P) : s = t := by
  cases s; cases t; simp_all
theorem f2 : findV stN.C stN.P (dS 97) = (⟨⟨#[]⟩, 0, 0⟩, 5) := by decide +kernel
theorem f5 : findV sT1.C sT1.P (dS 97) = (⟨dS 112, 10, 5⟩, 0) := by decide +kernel
theorem e4 : addR stN.C stN.P [dS 97] [⟨dS 112, 10, 5⟩] = 0 := by decide +kernel
theorem i4 : resS (addS stN [dS 97] [⟨dS 112, 10, 5⟩]) 0 = sT1 := by
  rw [resS, if_pos rfl]; exact st_ext rfl rfl rfl rfl (by decide +kernel) (by decide +kernel)
theorem e6 : addR sT1.C sT1.P [dS 98] [⟨dS 112, 12, 5⟩] = 1 := by decide +kernel
theorem i6 : resS (addS sT1 [dS 98] [⟨dS 112, 12, 5⟩]) 1 = stN := by rw [resS, if_neg (by decide)]
theorem e7 : addR sT1.C sT1.P [dS 98] [⟨dS 112, 15, 5⟩] = 0 := by decide +kernel
theorem i7 : resS (addS sT1 [dS 98] [⟨dS 112, 15, 5⟩]) 0 = sT2 := by
  rw [resS, if_pos rfl]; exact st_ext rfl rfl rfl rfl (by decide +kernel) (by decide +kernel)
theorem e9 : addR sT2.C sT2.P [dS 97] [⟨dS 113, 0, 5⟩] = 6 := by decide +kernel
theorem i9 : resS (addS sT2 [dS 97] [⟨dS 113, 0, 5⟩]) 6 = stN := by rw [resS, if_neg (by decide)]
theorem o8 : ofE sT2.C sT2.P (dS 112) = 0 := by decide +kernel
theorem v8 : ofV sT2.C sT2.P (dS 112) = tL := by decide +kernel
theorem p3e : packsE stN.C stN.P = 0 := by decide +kernel
theorem p3v : packsV stN.C stN.P = [] := by decide +kernel
end Go.Proofs.YtknddbmnciodaaaGreat
