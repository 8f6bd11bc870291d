/- The contract of the program's Of. -/
import Derived.Test.YtknddbmnciodaaaGreatDelF
import Derived.Test.YtknddbmnciodaaaGreatPPacks
import Derived.Test.YtknddbmnciodaaaGreatPiece
import Derived.Test.YtknddbmnciodaaaGreatFind
import Derived.Shelf.SlSortCmp.NoneTotal
namespace Go.Proofs.YtknddbmnciodaaaGreat
open Go.RowKit Go.Lib Go.Sort
open Ix
set_option linter.unusedVariables false
/-- does it stand in another pack? (the pack in a box) -/
theorem of1_any (b q : Nat) (hbq : q ≠ b) (p : ByteArray) (w : World) (h : Has w q #[.string p] 9) : PredO 39 #[.pointer (some ⟨q, 0, none⟩)] (fun x => !decide (x.2.pack = p)) b w := fun W x _ hW => by
  have hq := hW.has h hbq
  show Calls Tryz.prog 39 #[.agg #[.string x.1, .string x.2.pack, .int .i64 x.2.at_, .int .i64 x.2.len], .pointer (some ⟨q, 0, none⟩)] W _
  have hc : W.cell? ⟨q, 0, none⟩ = some (.string p) := by rw [hq.cell]; rfl
  have hlt := hq.lt
  have ne : q ≠ W.heap.size := by omega
  have hb := (RowKit.Below.refl W.heap.size W).alloc (Nat.le_refl _) (.cells #[.string x.1, .string x.2.pack, .int .i64 x.2.at_, .int .i64 x.2.len] 61)
  have HE := hid (eqL x.2.pack p)
  clear hq hW h
  go_enter Tryz.func39, Tryz.ntmps39
  go_wp2
  go_ret
  exact ⟨by rw [← HE.out]; rfl, hb⟩
/-- is it to go? (the set in a box) -/
theorem drop1_any (b q m : Nat) (hbq : q ≠ b) (hbm : m ≠ b) (l : List ByteArray) (w : World) (h : Has w q #[.map (some m)] 74) (hm : SMap w m l) : PredO 35 #[.pointer (some ⟨q, 0, none⟩)] (fun x => inC l x.1) b w := fun W x hx hW => by
  have hq := hW.has h hbq
  have hm' : SMap W m l := by
    obtain ⟨D, k, hk, ⟨es, clock, h1, h2⟩, h3⟩ := hm
    have hl : m < w.heap.size := (Array.getElem?_eq_some_iff.1 h1).1
    exact ⟨D, k, hk, ⟨es, clock, by rw [hW.block m hl hbm]; exact h1, h2⟩, h3⟩
  show Calls Tryz.prog 35 #[.agg #[.string x.1, .string x.2.pack, .int .i64 x.2.at_, .int .i64 x.2.len], .pointer (some ⟨q, 0, none⟩)] W fun e w' => e = .returned (.bool (inC l x.1)) ∧ _
  obtain ⟨w1, hw1⟩ : ∃ w1, w1 = W.alloc (.cells #[.string x.1, .string x.2.pack, .int .i64 x.2.at_, .int .i64 x.2.len] 61) := ⟨_, rfl⟩
  have hb1 : RowKit.Below W.heap.size W w1 := by rw [hw1]; exact (RowKit.Below.refl _ _).alloc (Nat.le_refl _) _
  have hlook := (hm'.below hb1 hm'.lt).look x.1 (by unfold maxLen; omega)
  have hq1 := hq.below hb1 hq.lt
  have hc : w1.cell? ⟨q, 0, none⟩ = some (.map (some m)) := by rw [hq1.cell]; rfl
  have n1 : Has w1 W.heap.size #[.string x.1, .string x.2.pack, .int .i64 x.2.at_, .int .i64 x.2.len] 61 := by rw [hw1]; exact Has.new _ _ _ _ rfl
  have hc1 : w1.cell? ⟨W.heap.size, 0, none⟩ = some (.string x.1) := by rw [n1.cell]; rfl
  have hB := hid (hb1.alloc hb1.size (.cells #[] 75))
  generalize inC l x.1 = r at *
  clear hq hm' hb1 hq1 n1 hm h hW
  go_enter Tryz.func35, Tryz.ntmps35
  go_upto_region 1 with fail
  rw [← hw1]
  clear hw1
  go_wp2_with fail
  go_ret
  exact ⟨rfl, hB.out⟩
theorem one_ck (x : En) : ∀ u ∈ ck4 x, u.oneCell' = true := by
  intro u hx
  simp [ck4] at hx
  rcases hx with rfl | rfl | rfl | rfl <;> rfl
/-- chunks sorted -/
theorem sortC_any (g : Nat) (cf : En → En → Int) (lt' : En → En → Bool) (hlt : ∀ x y, ltOf cf x y = lt' x y) (hO : SWO (ltOf cf)) (eg : ∀ args w, (callFunc g args).run Tryz.prog w = .ok (.enter g args) w)
    (hc : ∀ x y W, Calls Tryz.prog g #[.agg (ck4 x).toArray, .agg (ck4 y).toArray] W fun e w' => e = .returned (.int .i64 (cf x y)) ∧ ∃ q os', w' = grow (W.drewN q) os')
    (L : List En) (b c : Nat) (hn : L.length ≤ 100000) (W : World) (hb : b < W.heap.size) (hr : Rw ck4 4 W b L) :
    Calls Tryz.prog 22 #[.slice (some ⟨b, 0, none⟩) L.length c, .func (.func g) #[] #[]] W fun e w' => e = .returned (.tuple #[]) ∧ (∃ M, M.Perm L ∧ M.Pairwise (fun x y => lt' y x = false) ∧ Rw ck4 4 w' b M ∧ b < w'.heap.size) ∧ Onl b W w' := by
  have hcmp : CmpLays Tryz.prog g #[] ck4 4 cf b 0 L.toArray.size W := fun m os dk _ x y => hc x y _
  have hH := rw_holds (f := ck4) (fun _ => rfl) hr
  have hcon := AnyQ.slices_SortFunc Tryz.sortC 4 Tryz.isAgg61 Tryz.sizeOf61 ck4 (fun _ => rfl) (fun x v hv => one_ck x v hv) cf hO g #[] b 0 c L.toArray W eg hcmp hH hb (by rw [List.size_toArray]; omega)
  rw [List.size_toArray] at hcon
  refine hcon.mono ?_
  rintro e w' ⟨rfl, d', n, os, hp, hs, rfl⟩
  have hpl := perm_list (lt := ltOf cf) (L := L) (d' := d') (by rw [List.size_toArray]; exact hp) (by rw [List.size_toArray]; exact hs)
  have hsz : d'.size = L.toArray.size := hp.1
  have h1 := holdsK_sortWorldK_c ck4 4 W b 0 L.toArray d' n os hH hb hsz
  exact ⟨rfl, ⟨d'.toList, hpl.1, hpl.2.imp fun {x y} h => by rw [← hlt]; exact h, holds_rw (f := ck4) (fun _ => rfl) h1, Nat.lt_of_lt_of_le hb (size_sortWorldK_c ck4 4 W b 0 n d' os)⟩, onl_sort ck4 4 W b n d' os hb⟩
/-- what stands in a pack, or how it is refused -/
def ofE (C : List ByteArray) (P : List Pl) (p : ByteArray) : Int := if mayS C P = true then (if (ofs p (C.zip P)).length = 0 then 5 else 0) else 4
def ofV (C : List ByteArray) (P : List Pl) (p : ByteArray) : List En := if mayS C P = true then ofs p (C.zip P) else []
/-- two rows, in blocks of their own or none -/
def TwoRows (w : World) (v1 v2 : Value) (L : List En) (W : World) : Prop := ∃ A1 A2 c1 c2, v1 = .slice A1 L.length c1 ∧ v2 = .slice A2 L.length c2 ∧ Tx W A1 (L.map Prod.fst) ∧ Ps W A2 (L.map Prod.snd)
theorem two_nil (w W : World) : TwoRows w (.slice none 0 0) (.slice none 0 0) [] W := ⟨none, none, 0, 0, rfl, rfl, Tx.nil _ _, Ps.nil _ _⟩
set_option maxHeartbeats 8000000 in
theorem of_any (s : St) (a0 a1 a2 : Option Addr) (c0 c1 c2 : Nat) (p : ByteArray) (hn : s.C.length ≤ 100000) (hn2 : s.P.length ≤ 100000) (w : World) (hC : Tx w a1 s.C) (hP : Ps w a2 s.P) :
    Calls Tryz.prog 14 #[.agg (stV s a0 a1 a2 c0 c1 c2), .string p] w fun e w' => ∃ v1 v2, e = .returned (.tuple #[v1, v2, .int .i64 (ofE s.C s.P p)]) ∧ TwoRows w v1 v2 (ofV s.C s.P p) w' ∧ RowKit.Below w.heap.size w w' := by
  obtain ⟨b, hb⟩ : ∃ b, b = w.heap.size := ⟨_, rfl⟩
  obtain ⟨w1, hw1⟩ : ∃ w1, w1 = (w.alloc (.cells (stV s a0 a1 a2 c0 c1 c2) 35)).alloc (.cells #[.string p] 9) := ⟨_, rfl⟩
  have hB : RowKit.Below w.heap.size w w1 := by rw [hw1]; exact ((RowKit.Below.refl _ w).alloc (Nat.le_refl _) _).alloc (by simp) _
  have n1 : Has w1 b (stV s a0 a1 a2 c0 c1 c2) 35 := by rw [hw1]; exact (Has.new w _ _ _ hb).alloc _
  have n2 : Has w1 (b + 1) #[.string p] 9 := by rw [hw1]; exact Has.new _ _ _ _ (by simp [hb])
  have C0 := may_any s a0 a1 a2 c0 c1 c2 hn hn2 w1 (hC.below hB) (hP.below hB)
  have HC1 := hid (hC.below hB)
  have HP1 := hid (hP.below hB)
  have HB := hid hB
  have HBW := hid hb
  have HN1 := hid n1
  have HN2 := hid n2
  have k0 : w1.cell? ⟨b, 0, none⟩ = some (.int .i64 s.k) := by rw [n1.cell]; rfl
  have k1 : w1.cell? ⟨b, 1, none⟩ = some (.int .i64 s.n) := by rw [n1.cell]; rfl
  have k2 : w1.cell? ⟨b, 2, none⟩ = some (.int .i64 s.nx) := by rw [n1.cell]; rfl
  have k3 : w1.cell? ⟨b, 3, none⟩ = some (.slice a0 s.sn.length c0) := by rw [n1.cell]; rfl
  have k4 : w1.cell? ⟨b, 4, none⟩ = some (.slice a1 s.C.length c1) := by rw [n1.cell]; rfl
  have k5 : w1.cell? ⟨b, 5, none⟩ = some (.slice a2 s.P.length c2) := by rw [n1.cell]; rfl
  clear hB n1 n2 hC hP
  change w1 = (w.alloc (.cells #[.int .i64 s.k, .int .i64 s.n, .int .i64 s.nx, .slice a0 s.sn.length c0, .slice a1 s.C.length c1, .slice a2 s.P.length c2] 35)).alloc (.cells #[.string p] 9) at hw1
  show Calls Tryz.prog 14 #[.agg #[.int .i64 s.k, .int .i64 s.n, .int .i64 s.nx, .slice a0 s.sn.length c0, .slice a1 s.C.length c1, .slice a2 s.P.length c2], .string p] w _
  change Calls Tryz.prog 9 #[.agg #[.int .i64 s.k, .int .i64 s.n, .int .i64 s.nx, .slice a0 s.sn.length c0, .slice a1 s.C.length c1, .slice a2 s.P.length c2]] w1 _ at C0
  go_enter Tryz.func14, Tryz.ntmps14
  go_upto_region 1 with fail
  rw [← hw1, ← hb]
  clear hw1 hb
  go_wp2_with fail
  refine C0.mono ?_
  rintro e w2 ⟨rfl, b2⟩
  have HB2 := hid (HB.out.trans (b2.mono HB.out.size))
  have n1 := HN1.out.below b2 HN1.out.lt
  have N2 := hid (HN2.out.below b2 HN2.out.lt)
  have HC2 := hid (HC1.out.below b2)
  have HP2 := hid (HP1.out.below b2)
  clear C0 b2 k0 k1 k2 k3 k4 k5 HN1 HN2 HB HC1 HP1
  have k4 : w2.cell? ⟨b, 4, none⟩ = some (.slice a1 s.C.length c1) := by rw [n1.cell]; rfl
  have k5 : w2.cell? ⟨b, 5, none⟩ = some (.slice a2 s.P.length c2) := by rw [n1.cell]; rfl
  clear n1
  cases hmay : mayS s.C s.P with
  | false =>
    have H4 : Hid (ofE s.C s.P p = 4) := hid (by unfold ofE; rw [hmay]; rfl)
    have HV : Hid (ofV s.C s.P p = []) := hid (by unfold ofV; rw [hmay]; rfl)
    clear hmay
    go_wp2_with fail
    exact bodyPost_ret (v := .tuple #[.slice none 0 0, .slice none 0 0, .int .i64 4]) (by simp [results, Tryz.results14, go_sem]) rfl ⟨_, _, by rw [H4.out], by rw [HV.out]; exact two_nil _ _, HB2.out⟩
  | true =>
    have hM := mayS_iff.1 hmay
    have hlz : (s.C.zip s.P).length = s.C.length := zip_len _ _ (by omega)
    have hks : ∀ e ∈ s.C.zip s.P, e.1.size ≤ 1000000 ∧ e.2.pack.size ≤ 1000000 := fun e he => ⟨by have := hM.2.keys e he; omega, by have := (hM.2.places e he).1; omega⟩
    have H4 : Hid (ofE s.C s.P p = if (ofs p (s.C.zip s.P)).length = 0 then 5 else 0) := hid (by unfold ofE; rw [if_pos hmay])
    have HV : Hid (ofV s.C s.P p = ofs p (s.C.zip s.P)) := hid (by unfold ofV; rw [if_pos hmay])
    have C2 := chunksOf_any s.C s.P a1 a2 c1 c2 (by omega) hn w2 HC2.out HP2.out
    have HM := hid hM
    have HZL := hid hlz
    have HKS := hid hks
    clear hmay hM hlz hks
    go_wp2_with fail
    refine C2.mono ?_
    rintro e w3 ⟨rfl, hk3, b3⟩
    have n2 := N2.out.below b3 N2.out.lt
    obtain ⟨q, hq⟩ : ∃ q, q = w2.heap.size := ⟨_, rfl⟩
    rw [← hq] at hk3
    have HQ : Hid (b + 1 < q) := hid (by rw [hq]; exact N2.out.lt)
    have HQB : Hid (w.heap.size ≤ q) := hid (by rw [hq]; exact HB2.out.size)
    have HB3 := hid (HB2.out.trans (b3.mono HB2.out.size))
    have eg : ∀ args w, (callFunc 39 args).run Tryz.prog w = .ok (.enter 39 args) w := enters_of Tryz.func39 (by kernel_rfl) rfl
    have C3 := delete_any 39 #[.pointer (some ⟨b + 1, 0, none⟩)] (fun x => !decide (x.2.pack = p)) eg q (s.C.zip s.P) (by rw [HZL.out]; exact hn) (fun e he => (HKS.out e he).1) w3 hk3 (of1_any q (b + 1) (by have := HQ.out; omega) p w3 n2)
    rw [HZL.out] at C3
    have hfil : ((s.C.zip s.P).filter fun y => !!decide (y.2.pack = p)) = inPack p (s.C.zip s.P) := by
      unfold inPack; congr 1; funext e; simp
    rw [hfil] at C3
    have hfl : (inPack p (s.C.zip s.P)).length ≤ 100000 := by
      have := List.length_filter_le (fun e : En => decide (e.2.pack = p)) (s.C.zip s.P)
      rw [HZL.out] at this
      unfold inPack; omega
    have HFL := hid hfl
    have HOL : Hid ((ofs p (s.C.zip s.P)).length = (inPack p (s.C.zip s.P)).length) := hid (ofs_is HM.out.2 p).2.2
    have HSO := hid (fun (L : List En) (hp : L.Perm (inPack p (s.C.zip s.P))) (hs : L.Pairwise fun x y => ¬ y.2.at_ < x.2.at_) => sorted_ofs HM.out.2 p hp hs)
    have HKO : Hid (∀ e ∈ ofs p (s.C.zip s.P), e.1.size ≤ 1000000 ∧ e.2.pack.size ≤ 1000000) := hid (fun e he => HKS.out e (((ofs_is HM.out.2 p).2.1 e).1 he).1)
    generalize inPack p (s.C.zip s.P) = F at *
    generalize ofs p (s.C.zip s.P) = O at *
    clear hfil hfl k4 k5 C2 b3 n2 eg
    go_wp2_with fail
    rw [← hq]
    clear hq
    refine C3.mono ?_
    rintro e w4 ⟨rfl, hr4, o4⟩
    have HB4 := hid (HB3.out.trans (o4.below HQB.out HB3.out.size))
    have HLT : Hid (q < w4.heap.size) := hid (Nat.lt_of_lt_of_le hk3.lt o4.size)
    have HR4 := hid hr4
    clear C3 hr4 o4 hk3
    by_cases h0 : F.length = 0
    · have q0 : ((F.length : Int) == 0) = true := by rw [beq_iff_eq]; omega
      have HO0 : Hid (O = []) := hid (List.length_eq_zero_iff.1 (by rw [HOL.out]; exact h0))
      clear h0
      go_wp2_with fail
      exact bodyPost_ret (v := .tuple #[.slice none 0 0, .slice none 0 0, .int .i64 5]) (by simp [results, Tryz.results14, go_sem]) rfl ⟨_, _, by rw [H4.out, HO0.out]; rfl, by rw [HV.out, HO0.out]; exact two_nil _ _, HB4.out⟩
    · have q0 : ((F.length : Int) == 0) = false := by rw [beq_eq_false_iff_ne]; omega
      have eg : ∀ args w, (callFunc 40 args).run Tryz.prog w = .ok (.enter 40 args) w := enters_of Tryz.func40 (by kernel_rfl) rfl
      have C4 := sortC_any 40 cfA (fun x y => decide (x.2.at_ < y.2.at_)) ltA swoA eg of2_any F q s.C.length HFL.out w4 HLT.out HR4.out
      have H5 : Hid (ofE s.C s.P p = 0) := hid (by rw [H4.out, if_neg (by rw [HOL.out]; exact h0)])
      clear h0 eg HR4 H4
      go_wp2_with fail
      refine C4.mono ?_
      rintro e w5 ⟨rfl, ⟨M, hp, hs, hr5, hq5⟩, o5⟩
      have hMO : M = O := HSO.out M hp (hs.imp fun {x y} h => by simpa using h)
      subst hMO
      have HB5 := hid (HB4.out.trans (o5.below HQB.out HB4.out.size))
      have hle : M.length = F.length := HOL.out
      have C5 := apiece_any M (some ⟨q, 0, none⟩) s.C.length (by rw [hle]; exact HFL.out) HKO.out w5 (rw_ks hq5 hr5)
      rw [hle] at C5
      have HLE := hid hle
      clear C4 hp hs hr5 hq5 o5 HSO hle
      go_wp2_with fail
      refine C5.mono ?_
      rintro e w6 ⟨g1, g2, rfl, hpc⟩
      have HPC := hid hpc
      have HB6 := hid (HB5.out.trans (hpc.below.mono HB5.out.size))
      clear C5 hpc
      go_wp2_with fail
      exact bodyPost_ret (v := .tuple #[.slice (some ⟨g1, 0, none⟩) F.length F.length, .slice (some ⟨g2, 0, none⟩) F.length F.length, .int .i64 0]) (by simp [results, Tryz.results14, go_sem]) rfl ⟨_, _, by rw [H5.out], by rw [HV.out]; exact ⟨_, _, _, _, by rw [HLE.out], by rw [HLE.out], has_tx HPC.out.h1, has_ps HPC.out.h2⟩, HB6.out⟩
end Go.Proofs.YtknddbmnciodaaaGreat

