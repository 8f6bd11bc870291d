/- The walk of PackerNames. -/
import Derived.Test.YtjhjolnflkekoaaDoorAwake
namespace Go.Proofs.YtjhjolnflkekoaaDoor
open Go.RowKit Go.Maps
open Pk
set_option linter.unusedVariables false
theorem rn_call0 {ev : Operand → Value} {o : Oper} {w : World} {f : Operand} {F : Nat} (ho : o.op = .call { callee := .value f, args := #[], argTypes := #[] }) (hf : ev f = .func (.func F) #[] #[]) (he : (callFunc F #[]).run Tryd.prog w = .ok (.enter F #[]) w) : (execOp ev o).run Tryd.prog w = .ok (.enter F #[]) w := by
  simp [execOp, ho, hf, go_sem, he]
theorem en7 (args : Array Value) (w : World) : (callFunc 7 args).run Tryd.prog w = .ok (.enter 7 args) w := by kernel_rfl
theorem gather_two {c p q : List ByteArray} (hpk : Gt.packs c = [p, q]) (A : Option Addr) (n cap : Nat) (hn : c.length = n) (w : World) (ht : S.Tabs w) (h : Tx w A c) (hc : c.length ≤ 100000) (hct : tot c ≤ 100000000) (hb : badB c = false) :
    Calls Tryd.prog 8 #[.slice A n cap] w fun e w' => ∃ g x c1, e = .returned (.tuple #[.slice (some ⟨g, 0, none⟩) 2 c1, .int .i64 0]) ∧ w'.cell? ⟨g, 2, none⟩ = some (.slice (some ⟨x, 0, none⟩) p.length p.length) ∧ g < w'.heap.size ∧ Below w.heap.size w w' := by
  subst hn
  refine (gather_yes c A cap w ht h hc hct hb).mono ?_
  rintro e w' ⟨v, L, rfl, hp, hm, hbl⟩
  rw [hpk] at hm
  obtain ⟨x1, y1, x2, y2, rfl⟩ := two_of hm
  obtain ⟨B, c1, rfl⟩ := hp.slice
  obtain ⟨g, rfl, _, hg, k0, k1, k2, _⟩ := hp.cells 0 _ rfl
  exact ⟨g, x1, c1, rfl, k2, hg, hbl⟩
theorem gather_one {c p : List ByteArray} (hpk : Gt.packs c = [p]) (A : Option Addr) (n cap : Nat) (hn : c.length = n) (w : World) (ht : S.Tabs w) (h : Tx w A c) (hc : c.length ≤ 100000) (hct : tot c ≤ 100000000) (hb : badB c = false) :
    Calls Tryd.prog 8 #[.slice A n cap] w fun e w' => ∃ g x c1, e = .returned (.tuple #[.slice (some ⟨g, 0, none⟩) 1 c1, .int .i64 0]) ∧ w'.cell? ⟨g, 0, none⟩ = some (.string (pb p)) ∧ w'.cell? ⟨g, 2, none⟩ = some (.slice (some ⟨x, 0, none⟩) p.length p.length) ∧ g < w'.heap.size ∧ Below w.heap.size w w' := by
  subst hn
  refine (gather_yes c A cap w ht h hc hct hb).mono ?_
  rintro e w' ⟨v, L, rfl, hp, hm, hbl⟩
  rw [hpk] at hm
  match L, hm, hp with
  | [(q, x1, y1)], hm, hp =>
    simp at hm
    subst hm
    obtain ⟨B, c1, rfl⟩ := hp.slice
    obtain ⟨g, rfl, _, hg, k0, k1, k2, _⟩ := hp.cells 0 _ rfl
    exact ⟨g, x1, c1, rfl, k0, k2, hg, hbl⟩
theorem gather_nil (A : Option Addr) (cap : Nat) (w : World) (ht : S.Tabs w) :
    Calls Tryd.prog 8 #[.slice A 0 cap] w fun e w' => ∃ B c1, e = .returned (.tuple #[.slice B 0 c1, .int .i64 0]) ∧ Below w.heap.size w w' := by
  refine (gather_yes [] A cap w ht (Tx.nil _ _) (by simp) (by simp [tot_nil]) rfl).mono ?_
  rintro e w' ⟨v, L, rfl, hp, hm, hbl⟩
  have e0 : L = [] := by
    have : Gt.packs [] = [] := by unfold Gt.packs; simp [Gt.firsts, Gt.go]
    rw [this] at hm; simpa using hm
  subst e0
  obtain ⟨B, c1, rfl⟩ := hp.slice
  exact ⟨B, c1, rfl, hbl⟩
def nA : ByteArray := ⟨#[97]⟩
def nB : ByteArray := ⟨#[98]⟩
def nE : ByteArray := ⟨#[]⟩
def nO : ByteArray := rep 16384 97
def nX : ByteArray := rep 16385 97
def n1 : ByteArray := rep 2000 97
def n2' : ByteArray := rep 2096 98
def n3 : ByteArray := rep 1 99
theorem szO : nO.size = 16384 := rep_size _ _
theorem szX : nX.size = 16385 := rep_size _ _
theorem sz1 : n1.size = 2000 := rep_size _ _
theorem sz2 : n2'.size = 2096 := rep_size _ _
theorem sz3 : n3.size = 1 := rep_size _ _
theorem bd_1 : badB [nA, nE] = true := by decide +kernel
theorem bd_2 : badB [nX] = true := by unfold badB mcB; simp [szX]
theorem bd_3 : badB [nO, nB] = false := by
  have e : nB.size = 1 := rfl
  unfold badB mcB; simp [szO, e]
theorem bd_4 : badB [n1, n2', n3] = false := by unfold badB mcB; simp [sz1, sz2, sz3]
theorem bd_6 : badB [nA, nB, nA] = false := by decide +kernel
theorem pk_3 : Gt.packs [nO, nB] = [[nO], [nB]] := by
  have h : nO ≠ nB := fun e => by have := congrArg ByteArray.size e; rw [szO] at this; exact absurd this (by decide)
  have e : Gt.firsts [] [nO, nB] = [nO, nB] := Gt.firsts_id _ _ (by simp [h]) (by simp)
  unfold Gt.packs
  rw [e, Gt.go_open (by simp), Gt.go_shut ⟨by simp, by rw [List.nil_append, tot_one, szO]; decide⟩]
  rfl
theorem pk_4 : Gt.packs [n1, n2', n3] = [[n1, n2'], [n3]] := by
  have h1 : n1 ≠ n2' := fun e => by have := congrArg ByteArray.size e; rw [sz1, sz2] at this; omega
  have h2 : n1 ≠ n3 := fun e => by have := congrArg ByteArray.size e; rw [sz1, sz3] at this; omega
  have h3 : n2' ≠ n3 := fun e => by have := congrArg ByteArray.size e; rw [sz2, sz3] at this; omega
  have e : Gt.firsts [] [n1, n2', n3] = [n1, n2', n3] := Gt.firsts_id _ _ (by simp [h1, h2, h3]) (by simp)
  unfold Gt.packs
  rw [e, Gt.go_open (by simp), Gt.go_open (by intro h; have := h.2; simp [tot_one, sz1, sz2] at this), Gt.go_shut ⟨by simp, by simp [tot_cons, tot_nil, sz1, sz2, sz3]⟩]
  rfl
theorem pk_6 : Gt.packs [nA, nB, nA] = [[nA, nB]] := by
  have h : nA ≠ nB := by intro e; have := congrArg bs e; exact absurd this (by decide)
  have e : Gt.firsts [] [nA, nB, nA] = [nA, nB] := by
    rw [Gt.firsts_new (by simp), Gt.firsts_new (by simp [Ne.symm h]), Gt.firsts_met (by simp)]; rfl
  unfold Gt.packs
  have s1 : nA.size = 1 := rfl
  have s2 : nB.size = 1 := rfl
  rw [e, Gt.go_open (by simp), Gt.go_open (by intro h; have := h.2; simp [tot_one, s1, s2] at this)]
  rfl
set_option maxRecDepth 20000 in
set_option maxHeartbeats 8000000 in
theorem names_walk (w : World) (ht : S.Tabs w) : Calls Tryd.prog 4 #[] w fun e w' => e = .returned (.bool true) ∧ Below w.heap.size w w' := by
  have HT := hid ht
  have M2 := fun W => times_any 16385 97 (by decide) (by decide) W
  have M3 := fun W => times_any 16384 97 (by decide) (by decide) W
  have M4 := fun W => times_any 2000 97 (by decide) (by decide) W
  have M5 := fun W => times_any 2096 98 (by decide) (by decide) W
  have M6 := fun W => times_any 1 99 (by decide) (by decide) W
  change ∀ W, Calls Tryd.prog 13 _ W fun e w' => e = .returned (.string nX) ∧ Below W.heap.size W w' at M2
  change ∀ W, Calls Tryd.prog 13 _ W fun e w' => e = .returned (.string nO) ∧ Below W.heap.size W w' at M3
  change ∀ W, Calls Tryd.prog 13 _ W fun e w' => e = .returned (.string n1) ∧ Below W.heap.size W w' at M4
  change ∀ W, Calls Tryd.prog 13 _ W fun e w' => e = .returned (.string n2') ∧ Below W.heap.size W w' at M5
  change ∀ W, Calls Tryd.prog 13 _ W fun e w' => e = .returned (.string n3) ∧ Below W.heap.size W w' at M6
  have HM := hid (And.intro M2 (And.intro M3 (And.intro M4 (And.intro M5 M6))))
  have HG1 := hid (fun W A cap h => gather_no [nA, nE] A cap W h (by decide) (by decide) bd_1)
  have HG2 := hid (fun W A cap h => gather_no [nX] A cap W h (by decide) (by rw [tot_one, szX]; decide) bd_2)
  have HG3 := hid (fun W A cap hT h => gather_two pk_3 A 2 cap rfl W hT h (by decide) (by rw [tot_cons, tot_one, szO]; decide) bd_3)
  have HG4 := hid (fun W A cap hT h => gather_two pk_4 A 3 cap rfl W hT h (by decide) (by rw [tot_cons, tot_cons, tot_one, sz1, sz2, sz3]; decide) bd_4)
  have HG6 := hid (fun W A cap hT h => gather_one pk_6 A 3 cap rfl W hT h (by decide) (by decide) bd_6)
  have HBy : Hid (∀ W, Calls Tryd.prog 10 #[.slice none 0 0] W fun e w' => e = .returned (.int .i64 0) ∧ Below W.heap.size W w') := hid fun W => bytes_any [] 0 none 0 W (Pks.nil _ _) (by simp) (by simp)
  have hL := fun (W : World) (l : List ByteArray) => has_tx (Has.new W W.heap.size (sTx l) 9 rfl)
  have HL := hid hL
  have hA : ∀ (W : World) (o : Obj), Below W.heap.size W (W.alloc o) := fun W o => (Below.refl _ _).alloc (Nat.le_refl _) _
  have HA := hid hA
  clear M2 M3 M4 M5 M6 ht hL hA
  go_enter Tryd.func4, Tryd.ntmps4
  go_wp2_with fail
  refine (HG1.out _ _ _ (HL.out w [nA, nE])).mono ?_
  rintro e w1 ⟨rfl, b1⟩
  have B1 := hid ((HA.out w _).trans (b1.mono (HA.out w _).size))
  clear b1 HG1
  go_wp2_with fail
  refine (HM.out.1 _).mono ?_
  rintro e w2 ⟨rfl, b2⟩
  have B2 := hid (B1.out.trans (b2.mono B1.out.size))
  clear b2 B1
  go_wp2_with fail
  refine (HG2.out _ _ _ (HL.out w2 [nX])).mono ?_
  rintro e w3 ⟨rfl, b3⟩
  have B3 := hid (B2.out.trans (((HA.out w2 _).trans (b3.mono (HA.out w2 _).size)).mono B2.out.size))
  clear b3 B2 HG2
  go_wp2_with fail
  refine (HM.out.2.1 _).mono ?_
  rintro e w4 ⟨rfl, b4⟩
  have B4 := hid (B3.out.trans (b4.mono B3.out.size))
  clear b4 B3
  have hb4 := hid (B4.out.trans ((HA.out w4 (.cells (sTx [nO, nB]) 9)).mono B4.out.size))
  go_wp2_with fail
  refine (HG3.out _ _ _ (tabs_below HT.out hb4.out (Nat.le_refl _)) (HL.out w4 [nO, nB])).mono ?_
  rintro e w5 ⟨g5, x5, c5, rfl, _, _, b5⟩
  have B5 := hid (hb4.out.trans (b5.mono hb4.out.size))
  clear b5 B4 hb4 HG3
  go_wp2_with fail
  refine (HM.out.2.2.1 _).mono ?_
  rintro e w6 ⟨rfl, b6⟩
  have B6 := hid (B5.out.trans (b6.mono B5.out.size))
  clear b6 B5
  go_wp2_with fail
  refine (HM.out.2.2.2.1 _).mono ?_
  rintro e w7 ⟨rfl, b7⟩
  have B7 := hid (B6.out.trans (b7.mono B6.out.size))
  clear b7 B6
  go_wp2_with fail
  refine (HM.out.2.2.2.2 _).mono ?_
  rintro e w8 ⟨rfl, b8⟩
  have B8 := hid (B7.out.trans (b8.mono B7.out.size))
  clear b8 B7
  have hb8 := hid (B8.out.trans ((HA.out w8 (.cells (sTx [n1, n2', n3]) 9)).mono B8.out.size))
  go_wp2_with fail
  refine (HG4.out _ _ _ (tabs_below HT.out hb8.out (Nat.le_refl _)) (HL.out w8 [n1, n2', n3])).mono ?_
  rintro e wa ⟨g7, x7, c7, rfl, k7, hg7, ba⟩
  have Ba := hid (hb8.out.trans (ba.mono hb8.out.size))
  have K7 := hid k7
  have G7 := hid hg7
  clear ba B8 hb8 HG4 k7 hg7
  go_wp2_with fail
  refine (gather_nil _ _ _ (tabs_below HT.out Ba.out (Nat.le_refl _))).mono ?_
  rintro e wb ⟨A9, c9, rfl, bb⟩
  have K7 := hid ((bb.cell (p := ⟨g7, 2, none⟩) G7.out).trans K7.out)
  have G7 := hid (Nat.lt_of_lt_of_le G7.out bb.size)
  have Bb := hid (Ba.out.trans (bb.mono Ba.out.size))
  clear Ba bb
  have hbb := hid (HA.out wb (.cells (sTx [nA, nB, nA]) 9))
  have hbc := hid (Bb.out.trans (hbb.out.mono Bb.out.size))
  go_wp2_with fail
  refine (HG6.out _ _ _ (tabs_below HT.out hbc.out (Nat.le_refl _)) (HL.out wb [nA, nB, nA])).mono ?_
  rintro e w9 ⟨g11, x11, c11, rfl, _, k11, hg11, b9⟩
  have b9' := hbb.out.trans (b9.mono hbb.out.size)
  have K7 := hid ((b9'.cell (p := ⟨g7, 2, none⟩) G7.out).trans K7.out)
  have G7 := hid (Nat.lt_of_lt_of_le G7.out b9'.size)
  have B9 := hid (hbc.out.trans (b9.mono hbc.out.size))
  have K11 := hid k11
  have G11 := hid hg11
  obtain ⟨A5, hA5⟩ : ∃ A5 : Option Addr, A5 = some ⟨g5, 0, none⟩ := ⟨_, rfl⟩
  rw [← hA5]
  have j7 := K7.out
  clear b9 b9' Bb hbb hbc HG6 hg11 hA5 HL HA HM K7 K11
  go_wp2_with fail
  refine (HBy.out _).mono ?_
  rintro e wc ⟨rfl, bc⟩
  have Bc := hid (B9.out.trans (bc.mono B9.out.size))
  clear bc B9 j7 k11
  go_wp2_with fail
  refine (awake_any _ (tabs_below HT.out Bc.out (Nat.le_refl _))).mono ?_
  rintro e wd ⟨rfl, bd⟩
  have Bd := hid (Bc.out.trans (bd.mono Bc.out.size))
  clear bd Bc
  go_wp2_with fail
  go_ret
  exact ⟨rfl, Bd.out⟩
end Go.Proofs.YtjhjolnflkekoaaDoor
