/- Stripe: Read. -/
import Derived.Test.YtffhobkoagnhhaaGreatDoorS3
import Derived.Test.YtffhobkoagnhhaaGreatDoorS11
namespace Go.Proofs.YtffhobkoagnhhaaGreatDoor
open Go.RowKit Go.Maps
open W
variable {w0 w w' : World} {b : Nat} {V V' : Wd} {T T0 : Nat → Prop}
theorem toList_inj {a c : ByteArray} (h : a.toList = c.toList) : a = c := by
  rw [Lib.toList_data, Lib.toList_data] at h
  exact ba_ext h
def dig (s : List Nat) : ByteArray := H.ofBs (H.Sha.digest s)
def zsOf (l : List (Nat × ByteArray)) : List Int := l.map fun p => (p.1 : Int)
def psOf (l : List (Nat × ByteArray)) : List (List Nat) := l.map fun p => C.bs p.2
/-- what is found: which shards are sound, store by store, until they are enough -/
def found (V : Wd) (K N : Int) (d : ByteArray) : Int × Wd × List (Nat × ByteArray) := askG d (rnx K N d) V.l.length 0 V []
/-- what Read answers -/
def ReadIs (V : Wd) (K N : Int) (d : ByteArray) (o : ByteArray) (z : Int) (V' : Wd) : Prop :=
  (askE V K N d ≠ 0 ∧ o = ⟨#[]⟩ ∧ z = askE V K N d ∧ V' = V) ∨
  (askE V K N d = 0 ∧ (found V K N d).1 ≠ 0 ∧ o = ⟨#[]⟩ ∧ z = (found V K N d).1 ∧ V' = (found V K N d).2.1) ∨
  (askE V K N d = 0 ∧ (found V K N d).1 = 0 ∧ V' = (found V K N d).2.1 ∧ ∃ s er, C.DecIs K N (zsOf (found V K N d).2.2) (psOf (found V K N d).2.2) s er ∧ ((er = 0 ∧ dig s = d ∧ o = C.ofBs s ∧ z = 0) ∨ (¬ (er = 0 ∧ dig s = d) ∧ o = ⟨#[]⟩ ∧ z = 54)))
theorem askE_fits {K N : Int} {d : ByteArray} (h : askE V K N d = 0) : d.size = 32 ∧ C.Mx.mayC K N = true ∧ N = (V.l.length : Int) ∧ V.l.length ≤ 12 := by
  unfold askE fitE at h
  by_cases h1 : C.Mx.mayC K N = true ∧ N = (V.l.length : Int)
  · rw [if_pos h1, if_pos rfl] at h
    by_cases h2 : d.size = 32
    · refine ⟨h2, h1.1, h1.2, ?_⟩
      have := h1.1
      simp [C.Mx.mayC] at this
      omega
    · rw [if_neg h2] at h
      cases h
  · rw [if_neg h1, if_neg (by decide)] at h
    cases h
theorem ints_of {w : World} {B : Nat} {v : Value} {s : List (Nat × ByteArray)} (h : w.ownsRow B 3 1 v s.length (rdInts s)) (hs : s.length ≤ 1000) (hi : ∀ p ∈ s, p.1 ≤ 1000) : C.Ints64 w v (zsOf s) := by
  have hl : (zsOf s).length = s.length := by simp [zsOf]
  have hg : ∀ j, j < s.length → (rdInts s)[j]? = some (.int .i64 ((zsOf s).getD j 0)) := fun j hj => by
    unfold rdInts zsOf
    rw [List.getElem?_map, List.getD_eq_getElem?_getD, List.getElem?_map, List.getElem?_eq_getElem hj]
    rfl
  refine ⟨?_, fun j => ?_⟩
  · rcases row_form h with ⟨rfl, h0, _⟩ | ⟨g, cap, rfl, h1, _, _, _, h5⟩
    · exact ⟨none, 0, by rw [hl, h0], by rw [hl]; omega, fun hp => absurd hp (by rw [hl, h0]; decide)⟩
    · refine ⟨some ⟨g, 0, none⟩, cap, by rw [hl], by rw [hl]; omega, fun hp => ⟨g, 0, rfl, h1, fun j hj => ?_⟩⟩
      rw [Nat.zero_add]
      exact h5 j _ (hg j (by rw [← hl]; exact hj))
  · by_cases hj : j < s.length
    · have : (zsOf s).getD j 0 = ((s[j].1 : Nat) : Int) := by
        unfold zsOf
        rw [List.getD_eq_getElem?_getD, List.getElem?_map, List.getElem?_eq_getElem hj]
        rfl
      rw [this]
      have := hi _ (List.getElem_mem hj)
      omega
    · have : (zsOf s).getD j 0 = 0 := by
        rw [List.getD_eq_getElem?_getD, List.getElem?_eq_none (by rw [hl]; omega)]
        rfl
      rw [this]
      omega
theorem strs_of {w : World} {B : Nat} {v : Value} {s : List (Nat × ByteArray)} (h : w.ownsRow B 9 1 v s.length (rdStrs s)) (hs : s.length ≤ 1000) : C.Strs w v (psOf s) := by
  have hl : (psOf s).length = s.length := by simp [psOf]
  have hgd : ∀ j, (psOf s).getD j [] = if hj : j < s.length then C.bs s[j].2 else [] := fun j => by
    split
    · rename_i hj
      unfold psOf
      rw [List.getD_eq_getElem?_getD, List.getElem?_map, List.getElem?_eq_getElem hj]
      rfl
    · rename_i hj
      rw [List.getD_eq_getElem?_getD, List.getElem?_eq_none (by rw [hl]; omega)]
      rfl
  have hlt : ∀ i x, x ∈ (psOf s).getD i [] → x < 256 := fun i x hx => by
    rw [hgd] at hx
    split at hx
    · exact H.bs_lt _ x hx
    · cases hx
  rcases row_form h with ⟨rfl, h0, _⟩ | ⟨g, cap, rfl, h1, _, _, _, h5⟩
  · exact ⟨none, 0, by rw [hl, h0], by rw [hl]; omega, hlt, fun hp => absurd hp (by rw [hl, h0]; decide)⟩
  · refine ⟨some ⟨g, 0, none⟩, cap, by rw [hl], by rw [hl]; omega, hlt, fun hp => ⟨g, 0, rfl, h1, fun j hj => ?_⟩⟩
    rw [Nat.zero_add, hgd, dif_pos (by rw [← hl]; exact hj), show C.ofBs (C.bs (s[j]'(by rw [← hl]; exact hj)).2) = _ from H.ofBs_bs _]
    refine h5 j _ ?_
    unfold rdStrs
    rw [List.getElem?_map, List.getElem?_eq_getElem (by rw [← hl]; exact hj)]
    rfl
set_option maxHeartbeats 4000000 in
set_option maxRecDepth 20000 in
theorem read_any (h : WT w0 w b V T) (hl : H.Lay w0) (K N : Int) (d : ByteArray) (hc : V.calls ≤ 900000) (hf : V.left < 9223372036854775808) (Q : Ending → World → Prop)
    (hq : ∀ w' o z V', ReadIs V K N d o z V' → WT w0 w' b V' T → Kpt T w w' → Q (.returned (.tuple #[.string o, .int .i64 z])) w') : Calls Tryz.prog 11 #[ptr b, C.cv K N, .string d] w Q := by
  have HB := hid (boxed w (.cells #[.int .i64 K, .int .i64 N] 25))
  have HX0 := hid (Has.new w w.heap.size #[.int .i64 K, .int .i64 N] 25 rfl)
  have HMB := mayBeAsked_any (h.below HB.out) K N d
  have HQ := hid hq
  have HH := hid h
  have HL := hid hl
  have HC := hid hc
  have HF := hid hf
  have f0 := HX0.out.cell 0
  have f1 := HX0.out.cell 1
  clear h hl hc hf hq
  unfold C.cv ptr er at *
  by_cases hz : askE V K N d = 0
  case neg =>
    have HE : Hid (∀ w', Below w.heap.size w w' → Q (.returned (.tuple #[.string ⟨#[]⟩, .int .i64 (askE V K N d)])) w') := hid fun w' hb => HQ.out w' _ _ V (.inl ⟨hz, rfl, rfl, rfl⟩) (HH.out.below hb) (Kpt.below HH.out hb)
    have p1 : (askE V K N d != 0) = true := by simpa using hz
    clear hz HQ
    generalize askE V K N d = z at *
    go_enter Tryz.func11, Tryz.ntmps11
    go_wp2_with fail
    refine HMB.mono ?_
    clear HMB
    rintro x w1 ⟨rfl, hb1⟩
    have HB1 := hid (HB.out.trans (hb1.mono HB.out.size))
    clear hb1
    go_wp2_with fail
    exact HE.out _ HB1.out
  obtain ⟨hd, hm, hn, hn12⟩ := askE_fits hz
  have HZ := hid hz
  rw [hz] at HMB
  have HHD := hid hd
  have HHN := hid hn12
  clear hz hm hn hd hn12
  go_enter Tryz.func11, Tryz.ntmps11
  go_wp2_with fail
  refine HMB.mono ?_
  clear HMB
  rintro x w1 ⟨rfl, hb1⟩
  have HB1 := hid (HB.out.trans (hb1.mono HB.out.size))
  have hx1 := HX0.out.below hb1 HX0.out.lt
  have HX1 := hid hx1
  clear hb1 f0 f1 hx1 HB HX0
  go_wp2_with fail
  have HBZ := hid (HB1.out.trans (((boxed w1 (.cells #[.slice none 0 0] 82)).trans ((boxed (w1.alloc (.cells #[.slice none 0 0] 82)) (.cells #[.slice none 0 0] 62)).mono (by simp))).mono HB1.out.size))
  have HBS : Hid (Bes w0 w ((w1.alloc (.cells #[.slice none 0 0] 82)).alloc (.cells #[.slice none 0 0] 62)) b V T (fun i => T i ∨ (w.heap.size ≤ i ∧ i < ((w1.alloc (.cells #[.slice none 0 0] 82)).alloc (.cells #[.slice none 0 0] 62)).heap.size)) (RX w.heap.size w1.heap.size (w1.heap.size + 1) K N w.heap.size 0) []) := hid (by
    have z1 := HB1.out.size
    have z2 := HX1.out.lt
    refine ⟨HH.out.new HBZ.out, ⟨.inr ⟨Nat.le_refl _, by simp; try omega⟩, .inr ⟨z1, by simp; try omega⟩, .inr ⟨by omega, by simp; try omega⟩, z1, by omega, by simp, (fun p hp => (by cases hp)), ?_, .slice none 0 0, .slice none 0 0, ?_, ?_, World.ownsRow_nil _ _ _ _, World.ownsRow_nil _ _ _ _, (fun q hq => (by cases hq)), (fun q hq => (by cases hq))⟩, fun i hi => .inl hi, Kpt.below HH.out HBZ.out⟩
    · exact (HX1.out.below (boxed _ _) z2).below (boxed _ _) (by simp; omega)
    · exact (Has.new w1 w1.heap.size #[.slice none 0 0] 82 rfl).below (boxed _ _) (by simp)
    · exact Has.new _ _ _ _ (by simp))
  refine ask40_any d (by have := HHD.out; omega) w.heap.size w1.heap.size (w1.heap.size + 1) (rnx K N d) (RX w.heap.size w1.heap.size (w1.heap.size + 1) K N w.heap.size) RX.kept (fun w1' V1 T1 s1 i x e Q hi hb hq => read1_any K N d _ _ _ HL.out HH.out.lt HH.out.base.size w1' V1 T1 s1 i x e Q (by have := HHN.out; omega) hb hq) HBS.out HL.out HHN.out HC.out HF.out _ (fun w3 T3 k hk hb3 => ?_)
  clear HBS HBZ
  have HB3 : Hid (Bes w0 w w3 b (found V K N d).2.1 T T3 (RX w.heap.size w1.heap.size (w1.heap.size + 1) K N w.heap.size k) (found V K N d).2.2) := hid hb3
  have HEQ : Hid ((askG d (rnx K N d) V.l.length 0 V []).1 = (found V K N d).1) := hid rfl
  have HK : Hid (k ≤ 12) := hid (Nat.le_trans hk HHN.out)
  rw [HEQ.out]
  have HQ2 : Hid (∀ w' o z, ReadIs V K N d o z (found V K N d).2.1 → Below w3.heap.size w3 w' → Q (.returned (.tuple #[.string o, .int .i64 z])) w') := hid fun w' o z hr hb => HQ.out w' o z _ hr ((HB3.out.wt.sub HB3.out.sub).below hb) (HB3.out.kp.trans (Kpt.below (HB3.out.wt.sub HB3.out.sub) hb))
  have HQA : Hid ((found V K N d).1 ≠ 0 → ∀ w', Below w3.heap.size w3 w' → Q (.returned (.tuple #[.string ⟨#[]⟩, .int .i64 (found V K N d).1])) w') := hid fun h w' hb => HQ2.out w' _ _ (.inr (.inl ⟨HZ.out, h, rfl, rfl, rfl⟩)) hb
  have HQB : Hid ((found V K N d).1 = 0 → ∀ s, C.DecIs K N (zsOf (found V K N d).2.2) (psOf (found V K N d).2.2) s 0 → dig s = d → ∀ w', Below w3.heap.size w3 w' → Q (.returned (.tuple #[.string (C.ofBs s), .int .i64 0])) w') := hid fun h s hd he w' hb => HQ2.out w' _ _ (.inr (.inr ⟨HZ.out, h, rfl, s, 0, hd, .inl ⟨rfl, he, rfl, rfl⟩⟩)) hb
  have HQC : Hid ((found V K N d).1 = 0 → ∀ s er, C.DecIs K N (zsOf (found V K N d).2.2) (psOf (found V K N d).2.2) s er → ¬ (er = 0 ∧ dig s = d) → ∀ w', Below w3.heap.size w3 w' → Q (.returned (.tuple #[.string ⟨#[]⟩, .int .i64 54])) w') := hid fun h s er hd he w' hb => HQ2.out w' _ _ (.inr (.inr ⟨HZ.out, h, rfl, s, er, hd, .inr ⟨he, rfl, rfl⟩⟩)) hb
  clear HEQ hb3 hk HX1 HB1 HQ HQ2
  generalize found V K N d = rf at *
  obtain ⟨zf, Vf, lf⟩ := rf
  simp only at HQA HQB HQC HB3
  unfold er
  by_cases hz : zf = 0
  case neg =>
    have HE := hid (HQA.out hz w3 (Below.refl _ _))
    have p1 : (zf != 0) = true := by simpa using hz
    clear hz HQA HQB HQC
    go_wp2_with fail
    exact HE.out
  subst hz
  clear HQA
  have hx3 := HB3.out.x
  have HTA := HB3.out.wt.lay HL.out
  have hk12 := HK.out
  have hll := hx3.len
  obtain ⟨vh, vp, r1, r2, r3, r4, _, _⟩ := hx3.rows
  have HDE := C.decode_any K N vh vp (zsOf lf) (psOf lf) w3 (ints_of r3 (by omega) (fun p hp => by have := hx3.idx p hp; omega)) (strs_of r4 (by omega))
  have c0 := hx3.h1.cell 0
  have c1 := hx3.h1.cell 1
  have c2 := r1.cell 0
  have c3 := r2.cell 0
  have HTAB := hid HTA.ht
  unfold C.cv at HDE
  obtain ⟨ah, ch, rfl⟩ := row_slice r3
  obtain ⟨ap, cp, rfl⟩ := row_slice r4
  clear hx3 HTA r1 r2 r3 r4 hk12
  go_wp2_with fail
  refine HDE.mono ?_
  clear HDE c0 c1 c2 c3
  rintro x w4 ⟨s, er, rfl, hdec, hb4⟩
  have HB4 := hid hb4
  have HDC := hid hdec
  clear hb4
  by_cases he : er = 0
  case neg =>
    have HE := hid (HQC.out (by first | rfl | trivial) s er hdec (fun h => he h.1) w4 HB4.out)
    have p1 : (er != 0) = true := by simpa using he
    clear he hdec HQB HQC
    go_wp2_with fail
    exact HE.out
  subst he
  have hs : s.length ≤ 32768 ∧ ∀ x ∈ s, x < 256 := by
    rcases hdec with ⟨_, _, h⟩ | ⟨_, _, _, h⟩ | ⟨_, _, h⟩
    · cases h
    · cases h
    · rcases h with ⟨h, _⟩ | ⟨_, _, h⟩
      · exact ⟨h.1, h.2.1⟩
      · cases h
  have HSM := H.sum_any w4 (HTAB.out.below' HB4.out) (C.ofBs s) (by rw [show (C.ofBs s).size = s.length from H.ofBs_size s]; omega)
  rw [show H.ofBs (H.Sha.digest (H.bs (C.ofBs s))) = dig s from by unfold dig; rw [show H.bs (C.ofBs s) = s from H.bs_ofBs s hs.2]] at HSM
  clear hdec
  by_cases hd : dig s = d
  · have HE : Hid (∀ w', Below w4.heap.size w4 w' → Q (.returned (.tuple #[.string (C.ofBs s), .int .i64 0])) w') := hid fun w' hb => HQB.out (by first | rfl | trivial) s HDC.out hd w' (HB4.out.trans (hb.mono HB4.out.size))
    have p2 : ((dig s).toList != d.toList) = false := by rw [hd]; simp
    have p3 : ((dig s).toList == d.toList) = true := by rw [hd]; simp
    have p4 : (dig s).toList = d.toList := by rw [hd]
    clear hd HQB HQC hs HDC
    generalize dig s = dg at *
    generalize C.ofBs s = ob at *
    go_wp2_with fail
    refine HSM.mono ?_
    clear HSM
    rintro x w5 ⟨rfl, hb5⟩
    have HB5 := hid hb5
    clear hb5
    go_wp2_with fail
    exact HE.out _ HB5.out
  · have HE : Hid (∀ w', Below w4.heap.size w4 w' → Q (.returned (.tuple #[.string ⟨#[]⟩, .int .i64 54])) w') := hid fun w' hb => HQC.out (by first | rfl | trivial) s 0 HDC.out (fun h => hd h.2) w' (HB4.out.trans (hb.mono HB4.out.size))
    have p2 : ((dig s).toList != d.toList) = true := by
      rw [bne_iff_ne]
      exact fun h => hd (toList_inj h)
    have p3 : ((dig s).toList == d.toList) = false := beq_eq_false_iff_ne.2 fun h => hd (toList_inj h)
    clear hd HQB HQC hs HDC
    generalize dig s = dg at *
    generalize C.ofBs s = ob at *
    go_wp2_with fail
    refine HSM.mono ?_
    clear HSM
    rintro x w5 ⟨rfl, hb5⟩
    have HB5 := hid hb5
    clear hb5
    go_wp2_with fail
    exact HE.out _ HB5.out
end Go.Proofs.YtffhobkoagnhhaaGreatDoor
/- Stripe: Write. Printed by gen_s12.py. -/
namespace Go.Proofs.YtffhobkoagnhhaaGreatDoor
open Go.RowKit Go.Maps
open W
set_option linter.unusedVariables false
section
variable {ev : Operand → Value} {o : Oper} {w : World} {x y : Operand}
theorem ens37 (args : Array Value) : (callFunc 37 args).run Tryz.prog w = .ok (.enter 37 args) w := by kernel_rfl
end
variable {w0 w w' : World} {b : Nat} {V V' : Wd} {T T0 : Nat → Prop}
/-- the objects of a blob -/
def obsOf (K N : Int) (bl : List Nat) : List Ob := objsOf K N (dig bl) (C.ansE K N bl)
/-- what comes of a write -/
def wrG (V : Wd) (K N : Int) (bl : List Nat) : (ByteArray × Int) × Wd :=
  if fitE V K N ≠ 0 then ((⟨#[]⟩, fitE V K N), V)
  else if C.errE K N bl ≠ 0 then ((⟨#[]⟩, C.errE K N bl), V)
  else if (writG V K (obsOf K N bl) (dig bl)).1 ≠ 0 then ((⟨#[]⟩, (writG V K (obsOf K N bl) (dig bl)).1), (writG V K (obsOf K N bl) (dig bl)).2)
  else ((dig bl, 0), (writG V K (obsOf K N bl) (dig bl)).2)
def wrF (q b : Nat) (K N : Int) (dg : ByteArray) (vp : Value) (B : Nat) (os : List Ob) (j : Nat) (v : Value) (W : World) : Prop := match j with
  | 28 => v = .pointer (some ⟨b, 0, none⟩) | 29 => v = .pointer (some ⟨q, 0, none⟩) | 30 => v = .int .i64 K | 31 => v = .string dg
  | 32 => v = .agg #[.int .i64 K, .int .i64 N] | 33 => v = .string dg | 34 => v = vp
  | 35 => W.ownsRow B 64 2 v os.length (objCells os)
  | _ => True
theorem wrF_other {q b : Nat} {K N : Int} {dg : ByteArray} {vp : Value} {B : Nat} {os : List Ob} {j : Nat} {v : Value} {W W' : World} (hj : j ≠ 35) (h : wrF q b K N dg vp B os j v W) : wrF q b K N dg vp B os j v W' := by
  unfold wrF at h ⊢
  split at h
  all_goals first
    | exact h
    | exact absurd rfl hj
theorem dig_size (bl : List Nat) : (dig bl).size ≤ 1000 := by
  unfold dig
  rw [H.ofBs_size, H.digest_length]
  decide
set_option maxHeartbeats 8000000 in
set_option maxRecDepth 20000 in
theorem write_any (h : WT w0 w b V T) (hl : H.Lay w0) {M : Nat} (hok : Ok M V.l.length V) (hM : M + 300 ≤ 900000) (K N : Int) (bl : List Nat) (hbl : ∀ x ∈ bl, x < 256) (Q : Ending → World → Prop)
    (hq : ∀ w', WT w0 w' b (wrG V K N bl).2 T → Kpt T w w' → Ok (M + 40) V.l.length (wrG V K N bl).2 → Q (.returned (.tuple #[.string (wrG V K N bl).1.1, .int .i64 (wrG V K N bl).1.2])) w') : Calls Tryz.prog 10 #[ptr b, C.cv K N, .string (C.ofBs bl)] w Q := by
  have HB := hid (boxed w (.cells #[.int .i64 K, .int .i64 N] 25))
  have HX := hid (Has.new w w.heap.size #[.int .i64 K, .int .i64 N] 25 rfl)
  have HFT := fits_any (h.below HB.out) K N
  have HWG : Hid (wrG V K N bl = if fitE V K N ≠ 0 then ((⟨#[]⟩, fitE V K N), V) else if C.errE K N bl ≠ 0 then ((⟨#[]⟩, C.errE K N bl), V) else if (writG V K (obsOf K N bl) (dig bl)).1 ≠ 0 then ((⟨#[]⟩, (writG V K (obsOf K N bl) (dig bl)).1), (writG V K (obsOf K N bl) (dig bl)).2) else ((dig bl, 0), (writG V K (obsOf K N bl) (dig bl)).2)) := hid rfl
  have HFIN : Hid (∀ w' o z V', wrG V K N bl = ((o, z), V') → WT w0 w' b V' T → Kpt T w w' → Ok (M + 40) V.l.length V' → Q (.returned (.tuple #[.string o, .int .i64 z])) w') := hid fun w' o z V' he h1 h2 h3 => by
    have := hq w'
    rw [he] at this
    exact this h1 h2 h3
  have HH := hid h
  have HL := hid hl
  have HOK := hid hok
  have HBL := hid hbl
  clear h hl hok hq hbl
  unfold C.cv ptr er at *
  by_cases hz : fitE V K N = 0
  case neg =>
    rw [if_pos hz] at HWG
    have HE : Hid (∀ w', Below w.heap.size w w' → Q (.returned (.tuple #[.string ⟨#[]⟩, .int .i64 (fitE V K N)])) w') := hid fun w' hb => HFIN.out w' _ _ V HWG.out (HH.out.below hb) (Kpt.below HH.out hb) (HOK.out.more (by omega))
    have p1 : (fitE V K N != 0) = true := by simpa using hz
    clear hz HWG HFIN
    generalize fitE V K N = z at *
    generalize C.ofBs bl = bs0 at *
    go_enter Tryz.func10, Tryz.ntmps10
    go_wp2_with fail
    refine HFT.mono ?_
    clear HFT
    rintro x w1 ⟨rfl, hb1⟩
    have HB1 := hid (HB.out.trans (hb1.mono HB.out.size))
    clear hb1
    go_wp2_with fail
    exact HE.out _ HB1.out
  rw [if_neg (by simpa using hz)] at HWG
  have hfit : C.Mx.mayC K N = true ∧ N = (V.l.length : Int) := by
    unfold fitE at hz
    by_cases h : C.Mx.mayC K N = true ∧ N = (V.l.length : Int)
    · exact h
    · rw [if_neg h] at hz; cases hz
  have hKN : 1 ≤ K ∧ K ≤ N ∧ N ≤ 12 := by simpa [C.Mx.mayC] using hfit.1
  have HFF := hid hfit
  have HKN := hid hKN
  rw [hz] at HFT
  clear hz hfit hKN
  have HEN := fun w => C.encode_any K N bl w HBL.out
  unfold C.cv at HEN
  by_cases hz : C.errE K N bl = 0
  case neg =>
    rw [if_pos hz] at HWG
    have HE : Hid (∀ w', Below w.heap.size w w' → Q (.returned (.tuple #[.string ⟨#[]⟩, .int .i64 (C.errE K N bl)])) w') := hid fun w' hb => HFIN.out w' _ _ V HWG.out (HH.out.below hb) (Kpt.below HH.out hb) (HOK.out.more (by omega))
    have p1 : (C.errE K N bl != 0) = true := by simpa using hz
    clear hz HWG HFIN
    generalize C.errE K N bl = z at *
    generalize C.ofBs bl = bs0 at *
    go_enter Tryz.func10, Tryz.ntmps10
    go_wp2_with fail
    refine HFT.mono ?_
    clear HFT
    rintro x w1 ⟨rfl, hb1⟩
    have HB1 := hid (HB.out.trans (hb1.mono HB.out.size))
    have hx1 := HX.out.below hb1 HX.out.lt
    have c0 := hx1.cell 0
    have c1 := hx1.cell 1
    clear hb1 hx1
    go_wp2_with fail
    refine (HEN w1).mono ?_
    clear HEN c0 c1
    rintro x w2 ⟨pv, rfl, _, hb2⟩
    have HB2 := hid (HB1.out.trans (hb2.mono HB1.out.size))
    clear hb2
    go_wp2_with fail
    exact HE.out _ HB2.out
  rw [if_neg (by simpa using hz)] at HWG
  have hbs : bl.length ≤ 32768 := by
    unfold C.errE at hz
    rw [if_pos HFF.out.1] at hz
    by_cases h : bl.length ≤ 32768
    · exact h
    · rw [if_neg h] at hz; cases hz
  have hokE : C.okE K N bl = true := by
    unfold C.okE
    rw [HFF.out.1, decide_eq_true hbs]
    rfl
  have hlen : (C.ansE K N bl).length = V.l.length := by
    unfold C.ansE
    rw [if_pos hokE, C.encL_length, HFF.out.2]
    simp
  have HOL : Hid ((obsOf K N bl).length = V.l.length) := hid (by unfold obsOf; rw [objsOf_len, hlen])
  have HPL : Hid ((C.ansE K N bl).length ≤ 1000) := hid (by rw [hlen]; have := HKN.out; have := HFF.out.2; omega)
  have HSU : Hid (∀ w', H.Lay w' → Calls Tryz.prog 9 #[.string (C.ofBs bl)] w' fun e w'' => e = .returned (.string (dig bl)) ∧ Below w'.heap.size w' w'') := hid fun w' hl => by
    have := H.sum_any w' hl.ht (C.ofBs bl) (by rw [show (C.ofBs bl).size = bl.length from H.ofBs_size bl]; omega)
    rw [show H.ofBs (H.Sha.digest (H.bs (C.ofBs bl))) = dig bl from by unfold dig; rw [show H.bs (C.ofBs bl) = bl from H.bs_ofBs bl HBL.out]] at this
    exact this
  have HOB0 : Hid (∀ w' v, C.Strs w' v (C.ansE K N bl) → H.Lay w' → ∀ Q : Ending → World → Prop, (∀ w'' v', w''.ownsRow w'.heap.size 64 2 v' (obsOf K N bl).length (objCells (obsOf K N bl)) → Below w'.heap.size w' w'' → Q (.returned v') w'') → Calls Tryz.prog 37 #[.agg #[.int .i64 K, .int .i64 N], .string (dig bl), v] w' Q) := hid fun w' v hs hl Q hq => objectsOf_any K N (dig bl) hs HPL.out hl Q fun w'' v' hr hb => hq w'' v' (by unfold obsOf; rw [objsOf_len]; exact hr) hb
  have HDG := hid (dig_size bl)
  rw [hz] at HEN
  clear hz hbs hokE hlen
  generalize C.ansE K N bl = ps at *
  generalize obsOf K N bl = os at *
  generalize dig bl = dg at *
  generalize C.ofBs bl = bs0 at *
  go_enter Tryz.func10, Tryz.ntmps10
  go_wp2_with fail
  refine HFT.mono ?_
  clear HFT
  rintro x w1 ⟨rfl, hb1⟩
  have HB1 := hid (HB.out.trans (hb1.mono HB.out.size))
  have hx1 := HX.out.below hb1 HX.out.lt
  have c0 := hx1.cell 0
  have c1 := hx1.cell 1
  have HX1 := hid hx1
  clear hb1 hx1 HB HX
  go_wp2_with fail
  refine (HEN w1).mono ?_
  clear HEN c0 c1
  rintro x w2 ⟨pv, rfl, hst, hb2⟩
  have HB2 := hid (HB1.out.trans (hb2.mono HB1.out.size))
  have HX2 := hid (HX1.out.below hb2 HX1.out.lt)
  have HST := hid hst
  obtain ⟨pa, pc, rfl, _⟩ := hst
  clear hb2 HB1 HX1
  go_wp2_with fail
  refine (HSU.out w2 ((HH.out.below HB2.out).lay HL.out)).mono ?_
  clear HSU
  rintro x w4 ⟨rfl, hb4⟩
  have HB4 := hid (HB2.out.trans (hb4.mono HB2.out.size))
  have hx4 := HX2.out.below hb4 HX2.out.lt
  have HST4 := hid (HST.out.below hb4)
  have c0 := hx4.cell 0
  have c1 := hx4.cell 1
  have HLT : Hid (w.heap.size < w4.heap.size) := hid hx4.lt
  have HOB : Hid (∀ W', BelW w4 W' → ∀ Q : Ending → World → Prop, (∀ w'' v', w''.ownsRow w4.heap.size 64 2 v' os.length (objCells os) → Below W'.heap.size W' w'' → Q (.returned v') w'') → Calls Tryz.prog 37 #[.agg #[.int .i64 K, .int .i64 N], .string dg, .slice pa ps.length pc] W' Q) := hid fun W' hW Q hq => HOB0.out W' _ (HST4.out.below hW) (((HH.out.below HB4.out).below hW).lay HL.out) Q fun w'' v' hr hb => hq w'' v' (row_base hr (Below.size hW)) hb
  clear hb4 hx4 HB2 HX2 HST HOB0
  generalize ps.length = pn at *
  go_wp2_with fail
  refine Tl.wp_mix_lit (by kernel_rfl) 8 [28, 29, 30, 31, 32, 33, 34, 35] 41 rfl (by kernel_rfl) (BelW w4) (wrF w.heap.size b K N dg (.slice pa pn pc) w4.heap.size os) ((Below.refl _ _).drew)
    ⟨fun a' W' hC hF => ?_, fun a' W' hC hF => ?_, fun a' W' hC hF => ?_, fun a' W' hC hF => ?_, fun a' W' hC hF => ?_, fun a' W' hC hF => ?_, fun a' W' hC hF => ?_, fun a' W' hC hF => ?_, trivial⟩ ?_
  · exact Tl.sm_v 28 _ rfl (Tl.wanted_none rfl) hC rfl (rn_move rfl ((hF 0 (by decide +kernel)).2 (by decide)))
  · exact Tl.sm_v 29 _ rfl (Tl.wanted_none rfl) hC rfl (rn_f25_0 rfl ((hF 4 (by decide +kernel)).2 (by decide)))
  · exact Tl.sm_v 30 _ rfl (Tl.wanted_none rfl) hC rfl (rn_load3 rfl ((hF 29 (by decide +kernel)).1 (by decide)) (BelW.cell hC (p := ⟨w.heap.size, 0, none⟩) HLT.out c0))
  · exact Tl.sm_v 31 _ rfl (Tl.wanted_none rfl) hC rfl (rn_move rfl ((hF 6 (by decide +kernel)).2 (by decide)))
  · exact Tl.sm_v 32 _ rfl (Tl.wanted_none rfl) hC rfl (rn_load25 rfl ((hF 4 (by decide +kernel)).2 (by decide)) (BelW.cell hC (p := ⟨w.heap.size, 0, none⟩) HLT.out c0) (BelW.cell hC (p := ⟨w.heap.size, 1, none⟩) HLT.out c1))
  · exact Tl.sm_v 33 _ rfl (Tl.wanted_none rfl) hC rfl (rn_move rfl ((hF 6 (by decide +kernel)).2 (by decide)))
  · exact Tl.sm_v 34 _ rfl (Tl.wanted_none rfl) hC rfl (rn_move rfl ((hF 9 (by decide +kernel)).2 (by decide)))
  · refine Tl.sm_call 37 #[_, _, _] (Tl.wanted_none rfl) (rn_call3 rfl rfl ((hF 32 (by decide +kernel)).1 (by decide)) ((hF 33 (by decide +kernel)).1 (by decide)) ((hF 34 (by decide +kernel)).1 (by decide)) (ens37 _)) (HOB.out W' hC _ fun w'' v' hr hb => ?_)
    exact ⟨_, rfl, Below.trans hC (hb.mono hC.size), fun d v hne h => wrF_other (fun e => hne (by rw [e])) h, fun d hd => by cases hd; exact hr⟩
  intro v wB hw2 hv
  have v28 : v 28 = .pointer (some ⟨b, 0, none⟩) := hv 28 (by decide)
  have v30 : v 30 = .int .i64 K := hv 30 (by decide)
  have v31 : v 31 = .string dg := hv 31 (by decide)
  have hr : wB.ownsRow w4.heap.size 64 2 (v 35) os.length (objCells os) := hv 35 (by decide)
  have HBB : Hid (Below w.heap.size w wB) := hid (HB4.out.trans ((show Below w4.heap.size w4 wB from hw2).mono HB4.out.size))
  obtain ⟨oa, oc, hoa⟩ := row_slice hr
  rw [hoa] at hr
  clear hv hw2 HOB
  simp only [Tl.fill, List.drop_succ_cons, List.drop_zero]
  simp only [Act.put, List.setIfInBounds_toArray, List.set_cons_succ, List.set_cons_zero, v28, v30, v31, hoa]
  clear v28 v30 v31 hoa c0 c1
  have hle := HB4.out.size
  have hKN := HKN.out
  have hfN := HFF.out.2
  have hol := HOL.out
  have HWR := written_any (HH.out.new HBB.out) HL.out K (row_base hr (Nat.zero_le _)) (fun q hq => .inr ⟨Nat.le_trans hle (row_has hr hq).1, by obtain ⟨_, cur, hh⟩ := row_has hr hq; exact hh.lt⟩) dg HDG.out (M := M) (by rw [hol]; exact HOK.out) (by omega) (by omega) (by omega)
  unfold ptr at HWR
  have HOL3 : Hid (M + 3 * os.length ≤ M + 40) := hid (by omega)
  clear hr hle hKN hfN hol
  generalize writG V K os dg = rw at *
  obtain ⟨zw, Vw⟩ := rw
  simp only at HWR HWG
  go_wp2_with fail
  refine HWR _ fun w5 hw5 hk5 hok5 => ?_
  clear HWR
  have HKT : Hid (WT w0 w5 b Vw T ∧ Kpt T w w5 ∧ Ok (M + 40) V.l.length Vw) := hid ⟨hw5.sub fun i hi => .inl hi, (Kpt.below HH.out HBB.out).trans (hk5.sub fun i hi => .inl hi), by rw [← HOL.out]; exact hok5.more HOL3.out⟩
  clear hw5 hk5 hok5
  by_cases hz : zw = 0
  · subst hz
    rw [if_neg (by simp)] at HWG
    have HE := hid (HFIN.out w5 _ _ _ HWG.out HKT.out.1 HKT.out.2.1 HKT.out.2.2)
    clear HWG HFIN
    go_wp2_with fail
    exact HE.out
  · rw [if_pos hz] at HWG
    have HE := hid (HFIN.out w5 _ _ _ HWG.out HKT.out.1 HKT.out.2.1 HKT.out.2.2)
    have p1 : (zw != 0) = true := by simpa using hz
    clear HWG HFIN hz
    go_wp2_with fail
    exact HE.out
end Go.Proofs.YtffhobkoagnhhaaGreatDoor
