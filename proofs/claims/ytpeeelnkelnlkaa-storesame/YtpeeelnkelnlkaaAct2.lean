/- An act is done to both: what is told is the same. -/
import Derived.Test.YtpeeelnkelnlkaaDuo
namespace Go.Proofs.Ytpeeelnkelnlkaa
open Go.RowKit Go.Maps
theorem RdI.lt {W : World} {v : Value} {ks : List Int} (h : RdI W v ks) {g o n c : Nat} (e : v = .slice (some ⟨g, o, none⟩) n c) (hn : 0 < n) : g < W.heap.size := by
  rcases h with ⟨A, c', e', _⟩ | ⟨g', o', cap, _, e', hg, _⟩
  · rw [e] at e'; cases e'; omega
  · rw [e] at e'; cases e'; exact hg
def acF0 (b c B : Nat) (nm dt : ByteArray) (_fk _ft _fn _fa _fc e1 e2 : Int) (i : Nat) (v : Value) (_ : World) : Prop := match i with
  | 19 => v = .pointer (some ⟨b, 0, none⟩)
  | 20 => v = .pointer (some ⟨B, 1, none⟩)
  | 21 => v = .agg #[.string nm, .string dt]
  | 22 => v = .int .i64 e1
  | 23 => v = .pointer (some ⟨c, 0, none⟩)
  | 24 => v = .pointer (some ⟨B, 1, none⟩)
  | 25 => v = .agg #[.string nm, .string dt]
  | 26 => v = .int .i64 e2
  | 27 => v = .bool (decide (e1 = e2))
  | _ => True
def acF2 (b c B : Nat) (nm _dt : ByteArray) (_fk _ft _fn _fa _fc e1 e2 : Int) (i : Nat) (v : Value) (_ : World) : Prop := match i with
  | 56 => v = .pointer (some ⟨b, 0, none⟩)
  | 57 => v = .pointer (some ⟨B, 1, none⟩)
  | 58 => v = .pointer (some ⟨B, 1, none⟩)
  | 59 => v = .string nm
  | 60 => v = .int .i64 e1
  | 61 => v = .pointer (some ⟨c, 0, none⟩)
  | 62 => v = .pointer (some ⟨B, 1, none⟩)
  | 63 => v = .pointer (some ⟨B, 1, none⟩)
  | 64 => v = .string nm
  | 65 => v = .int .i64 e2
  | 66 => v = .bool (decide (e1 = e2))
  | _ => True
def acF6 (b c B : Nat) (_nm _dt : ByteArray) (fk ft fn fa fc e1 e2 : Int) (i : Nat) (v : Value) (_ : World) : Prop := match i with
  | 105 => v = .pointer (some ⟨b, 0, none⟩)
  | 106 => v = .pointer (some ⟨B, 4, none⟩)
  | 107 => v = .agg #[.int .u8 fk, .int .i64 ft, .int .i64 fn, .int .i64 fa, .int .i64 fc]
  | 108 => v = .int .i64 e1
  | 109 => v = .pointer (some ⟨c, 0, none⟩)
  | 110 => v = .pointer (some ⟨B, 4, none⟩)
  | 111 => v = .agg #[.int .u8 fk, .int .i64 ft, .int .i64 fn, .int .i64 fa, .int .i64 fc]
  | 112 => v = .int .i64 e2
  | 113 => v = .bool (decide (e1 = e2))
  | _ => True
set_option maxHeartbeats 8000000 in
set_option maxRecDepth 20000 in
theorem act_any {w : World} {S : Nat → Prop} {b c N : Nat} {s : St} {r : Rf} {x : Ac} (h : D2 w S b c s r) (ht : Twin N s r) (hN : N ≤ 100000) (hx : AcOk w x) (hnm : x.name.size ≤ 1000000) (hkS : ∀ g o n c', x.kv = .slice (some ⟨g, o, none⟩) n c' → 0 < n → ¬ S g) : Calls Try.prog 24 #[ptr b, ptr c, .agg (acells x).toArray] w fun e w' => e = .returned (.bool true) ∧ ∃ s' r', After2 w w' S b c s' r' ∧ Twin (N + 1) s' r' := by
  obtain ⟨kd, nm, dt, kv, ks, fk, ft, fn, fa, fc⟩ := x
  have hkl := hx.keeps
  have hkp := hx.keep
  have hf0 := hx.fk0
  have hf1 := hx.fk1
  have hf2 := hx.fn
  have hf3 := hx.fa
  have hk256 := hx.kind
  simp only at hkl hkp hf0 hf1 hf2 hf3 hnm hkS hk256
  clear hx
  unfold acells
  simp only
  have HF := hid ht.fit
  have HN : Hid (r.good.length + r.writes.length ≤ 1000000) := hid (by have := ht.many; omega)
  have HDT : Hid (∀ p ∈ seenR r, p.2.size ≤ 65536) := hid (by rw [ht.seen]; exact ht.datas)
  have HAH : Hid (∀ k, r.ahead = some k → k < 9223372036854775808) := hid (by rw [ht.ahead]; exact ht.refl)
  have HNS : Hid (¬ S w.heap.size) := hid fun hS => by obtain ⟨_, _, _, _, _, _, _, h6⟩ := h; have := h6 _ hS; omega
  have HTW := hid ht
  clear ht
  by_cases h0 : kd = 0
  · subst h0
    have HT2 := hid (HTW.out.put nm dt)
    have HB := hid (boxed w (.cells #[.int .u8 0, .string nm, .string dt, kv, .int .u8 fk, .int .i64 ft, .int .i64 fn, .int .i64 fa, .int .i64 fc] 41))
    have HBX := hid (Has.new w w.heap.size #[.int .u8 0, .string nm, .string dt, kv, .int .u8 fk, .int .i64 ft, .int .i64 fn, .int .i64 fa, .int .i64 fc] 41 rfl)
    have HD := hid (h.below HB.out)
    have b1 := HBX.out.cell 1
    have b2 := HBX.out.cell 2
    have b3 := HBX.out.cell 3
    obtain ⟨wa, hwa⟩ : ∃ wa, wa = w.alloc (.cells #[.int .u8 0, .string nm, .string dt, kv, .int .u8 fk, .int .i64 ft, .int .i64 fn, .int .i64 fa, .int .i64 fc] 41) := ⟨_, rfl⟩
    rw [← hwa] at HB HBX HD b1 b2 b3
    unfold ptr
    go_enter Try.func24, Try.ntmps24
    go_wp2_with fail
    rw [← hwa]
    clear hwa
    refine Tl.wp_mixL_lit (by kernel_rfl) 9 [19, 20, 21, 22, 23, 24, 25, 26, 27] 114 rfl (by kernel_rfl) (Tl.Two 3 7 (fun W => After2 wa W S b c s r) (fun W => After2 wa W S b c (putS s nm dt).2 r) (fun W => After2 wa W S b c (putS s nm dt).2 (putR r nm dt).2)) (acF0 b c w.heap.size nm dt fk ft fn fa fc (putS s nm dt).1 (putR r nm dt).1) (show Tl.Two _ _ _ _ _ _ _ from by unfold Tl.Two; rw [if_neg (by decide)]; exact (After2.refl HD.out).next (Below.refl _ _).drew)
      ⟨fun l a' W' hsz hl hcl hed hC hF => ?_, fun l a' W' hsz hl hcl hed hC hF => ?_, fun l a' W' hsz hl hcl hed hC hF => ?_, fun l a' W' hsz hl hcl hed hC hF => ?_, fun l a' W' hsz hl hcl hed hC hF => ?_, fun l a' W' hsz hl hcl hed hC hF => ?_, fun l a' W' hsz hl hcl hed hC hF => ?_, fun l a' W' hsz hl hcl hed hC hF => ?_, fun l a' W' hsz hl hcl hed hC hF => ?_, trivial⟩ ?_
    · exact Tl.sl_v 19 _ rfl (Tl.wanted_none rfl) (hC.other (by decide) (by decide)) rfl (rn_move rfl ((hF 0 (by decide +kernel)).2 (by decide)))
    · exact Tl.sl_v 20 _ rfl (Tl.wanted_none rfl) (hC.other (by decide) (by decide)) rfl (rn_f41_1 rfl ((hF 5 (by decide +kernel)).2 (by decide)))
    · exact Tl.sl_v 21 _ rfl (Tl.wanted_none rfl) (hC.other (by decide) (by decide)) rfl (rn_load28 rfl ((hF 20 (by decide +kernel)).1 (by decide)) ((hC.any (Y := fun W => Has W w.heap.size #[.int .u8 0, .string nm, .string dt, kv, .int .u8 fk, .int .i64 ft, .int .i64 fn, .int .i64 fa, .int .i64 fc] 41) (fun h => h.has HBX.out HNS.out) (fun h => h.has HBX.out HNS.out) (fun h => h.has HBX.out HNS.out)).cell 1) ((hC.any (Y := fun W => Has W w.heap.size #[.int .u8 0, .string nm, .string dt, kv, .int .u8 fk, .int .i64 ft, .int .i64 fn, .int .i64 fa, .int .i64 fc] 41) (fun h => h.has HBX.out HNS.out) (fun h => h.has HBX.out HNS.out) (fun h => h.has HBX.out HNS.out)).cell 2))
    · obtain ⟨S1, k1, k2, k3⟩ := (hC.first hl).st
      refine Tl.sl_call 10 #[.pointer (some ⟨b, 0, none⟩), .agg #[.string nm, .string dt]] (Tl.wanted_none rfl) (rn_call2 rfl rfl ((hF 19 (by decide +kernel)).1 (by decide)) ((hF 21 (by decide +kernel)).1 (by decide)) (enter10 _)) ((put_any k1 HF.out (by omega) nm dt).mono ?_)
      rintro e w'' ⟨rfl, ha⟩
      exact ⟨_, rfl, Tl.Two.did (by decide) hcl (by kernel_rfl) hl (by rw [hsz]; decide) (k3 _ _ ha), fun _ _ _ h => h, fun d hd => by cases hd; rfl⟩
    · exact Tl.sl_v 23 _ rfl (Tl.wanted_none rfl) (hC.other (by decide) (by decide)) rfl (rn_move rfl ((hF 1 (by decide +kernel)).2 (by decide)))
    · exact Tl.sl_v 24 _ rfl (Tl.wanted_none rfl) (hC.other (by decide) (by decide)) rfl (rn_f41_1 rfl ((hF 5 (by decide +kernel)).2 (by decide)))
    · exact Tl.sl_v 25 _ rfl (Tl.wanted_none rfl) (hC.other (by decide) (by decide)) rfl (rn_load28 rfl ((hF 24 (by decide +kernel)).1 (by decide)) ((hC.any (Y := fun W => Has W w.heap.size #[.int .u8 0, .string nm, .string dt, kv, .int .u8 fk, .int .i64 ft, .int .i64 fn, .int .i64 fa, .int .i64 fc] 41) (fun h => h.has HBX.out HNS.out) (fun h => h.has HBX.out HNS.out) (fun h => h.has HBX.out HNS.out)).cell 1) ((hC.any (Y := fun W => Has W w.heap.size #[.int .u8 0, .string nm, .string dt, kv, .int .u8 fk, .int .i64 ft, .int .i64 fn, .int .i64 fa, .int .i64 fc] 41) (fun h => h.has HBX.out HNS.out) (fun h => h.has HBX.out HNS.out) (fun h => h.has HBX.out HNS.out)).cell 2))
    · obtain ⟨S1, k1, k2, k3⟩ := (hC.second (hed 3 (by kernel_rfl)) hl).rf
      refine Tl.sl_call 43 #[.pointer (some ⟨c, 0, none⟩), .agg #[.string nm, .string dt]] (Tl.wanted_none rfl) (rn_call2 rfl rfl ((hF 23 (by decide +kernel)).1 (by decide)) ((hF 25 (by decide +kernel)).1 (by decide)) (enter43 _)) ((refPutS_any k1 HN.out HDT.out HAH.out nm dt).mono ?_)
      rintro e w'' ⟨rfl, ha⟩
      exact ⟨_, rfl, Tl.Two.both (by decide) (hed 3 (by kernel_rfl)) (by rw [hsz]; decide) (k3 _ _ ha), fun _ _ _ h => h, fun d hd => by cases hd; rfl⟩
    · exact Tl.sl_v 27 _ rfl (Tl.wanted_none rfl) (hC.other (by decide) (by decide)) rfl (rn_eql25 rfl ((hF 22 (by decide +kernel)).1 (by decide)) ((hF 26 (by decide +kernel)).1 (by decide)) rfl)
    intro k v W2 hk hC hv
    have hX2 := hC.last (hk 3 (by decide)) (hk 7 (by decide))
    have vv : v 27 = .bool (decide ((putS s nm dt).1 = (putR r nm dt).1)) := hv 27 (by decide)
    rw [decide_eq_true HT2.out.1.symm] at vv
    have HX2 := hid (After2.front HB.out hX2)
    clear hk hC hv hX2
    simp only [Tl.fill, List.drop_succ_cons, List.drop_zero, wpList]
    rw [if_pos (Tl.wanted_none rfl)]
    simp only [Act.put, List.setIfInBounds_toArray, List.set_cons_succ, List.set_cons_zero, vv]
    clear vv
    refine .inl (wp_assign (x := .tmp 27) (d := 6) (v := .bool true) ?_ ?_ ?_ ?_)
    · rfl
    · rfl
    · rfl
    simp only [Act.put, List.setIfInBounds_toArray, List.set_cons_succ, List.set_cons_zero]
    go_wp2_with fail
    go_ret
    exact ⟨rfl, _, _, HX2.out, HT2.out.2⟩
  have e0 : ((kd : Int) == 0) = false := beq_eq_false_iff_ne.2 (by omega)
  by_cases h1 : kd = 1
  · subst h1
    have HG := hid (HTW.out.get nm)
    have HB := hid (boxed w (.cells #[.int .u8 1, .string nm, .string dt, kv, .int .u8 fk, .int .i64 ft, .int .i64 fn, .int .i64 fa, .int .i64 fc] 41))
    have HBX := hid (Has.new w w.heap.size #[.int .u8 1, .string nm, .string dt, kv, .int .u8 fk, .int .i64 ft, .int .i64 fn, .int .i64 fa, .int .i64 fc] 41 rfl)
    have HD := hid (h.below HB.out)
    have b1 := HBX.out.cell 1
    have b2 := HBX.out.cell 2
    have b3 := HBX.out.cell 3
    obtain ⟨wa, hwa⟩ : ∃ wa, wa = w.alloc (.cells #[.int .u8 1, .string nm, .string dt, kv, .int .u8 fk, .int .i64 ft, .int .i64 fn, .int .i64 fa, .int .i64 fc] 41) := ⟨_, rfl⟩
    rw [← hwa] at HB HBX HD b1 b2 b3
    unfold ptr
    go_enter Try.func24, Try.ntmps24
    go_wp2_with fail
    rw [← hwa]
    clear hwa
    obtain ⟨S1, k1, _, _⟩ := (After2.refl HD.out).st
    refine (get_any k1 nm (by unfold maxLen; omega)).mono ?_
    rintro x w1 ⟨rfl, hb1⟩
    obtain ⟨T1, t1, _, _⟩ := ((After2.refl HD.out).next hb1).rf
    have HRG := refGet_any t1 HN.out nm
    rw [HG.out] at HRG
    have b1' : w1.cell? ⟨w.heap.size, 1, none⟩ = some (.string nm) := (HBX.out.below hb1 HBX.out.lt).cell 1
    have HB1 := hid hb1
    unfold er
    unfold ptr at HRG
    clear HG k1 t1 hb1 b1 b2 b3
    generalize (Ytpeeelnkelnlkaa.get s nm).1 = d0 at *
    generalize (Ytpeeelnkelnlkaa.get s nm).2 = z0 at *
    go_wp2_with fail
    refine HRG.mono ?_
    clear HRG
    rintro x w2 ⟨rfl, hb2⟩
    have HB2 := hid hb2
    clear hb2
    have q1 : (d0.toList == d0.toList) = true := by simp
    have q2 : (z0 == z0) = true := by simp
    go_wp2_with fail
    go_ret
    exact ⟨rfl, s, r, After2.front HB.out (((After2.refl HD.out).next HB1.out).next HB2.out), HTW.out.more (Nat.le_succ _)⟩
  have e1 : ((kd : Int) == 1) = false := beq_eq_false_iff_ne.2 (by omega)
  by_cases h2 : kd = 2
  · subst h2
    have HT2 := hid (HTW.out.del nm)
    have HB := hid (boxed w (.cells #[.int .u8 2, .string nm, .string dt, kv, .int .u8 fk, .int .i64 ft, .int .i64 fn, .int .i64 fa, .int .i64 fc] 41))
    have HBX := hid (Has.new w w.heap.size #[.int .u8 2, .string nm, .string dt, kv, .int .u8 fk, .int .i64 ft, .int .i64 fn, .int .i64 fa, .int .i64 fc] 41 rfl)
    have HD := hid (h.below HB.out)
    have b1 := HBX.out.cell 1
    have b2 := HBX.out.cell 2
    have b3 := HBX.out.cell 3
    obtain ⟨wa, hwa⟩ : ∃ wa, wa = w.alloc (.cells #[.int .u8 2, .string nm, .string dt, kv, .int .u8 fk, .int .i64 ft, .int .i64 fn, .int .i64 fa, .int .i64 fc] 41) := ⟨_, rfl⟩
    rw [← hwa] at HB HBX HD b1 b2 b3
    unfold ptr
    go_enter Try.func24, Try.ntmps24
    go_wp2_with fail
    rw [← hwa]
    clear hwa
    refine Tl.wp_mixL_lit (by kernel_rfl) 11 [56, 57, 58, 59, 60, 61, 62, 63, 64, 65, 66] 114 rfl (by kernel_rfl) (Tl.Two 4 9 (fun W => After2 wa W S b c s r) (fun W => After2 wa W S b c (delS s nm).2 r) (fun W => After2 wa W S b c (delS s nm).2 (delR r nm).2)) (acF2 b c w.heap.size nm dt fk ft fn fa fc (delS s nm).1 (delR r nm).1) (show Tl.Two _ _ _ _ _ _ _ from by unfold Tl.Two; rw [if_neg (by decide)]; exact (After2.refl HD.out).next (Below.refl _ _).drew)
      ⟨fun l a' W' hsz hl hcl hed hC hF => ?_, fun l a' W' hsz hl hcl hed hC hF => ?_, fun l a' W' hsz hl hcl hed hC hF => ?_, fun l a' W' hsz hl hcl hed hC hF => ?_, fun l a' W' hsz hl hcl hed hC hF => ?_, fun l a' W' hsz hl hcl hed hC hF => ?_, fun l a' W' hsz hl hcl hed hC hF => ?_, fun l a' W' hsz hl hcl hed hC hF => ?_, fun l a' W' hsz hl hcl hed hC hF => ?_, fun l a' W' hsz hl hcl hed hC hF => ?_, fun l a' W' hsz hl hcl hed hC hF => ?_, trivial⟩ ?_
    · exact Tl.sl_v 56 _ rfl (Tl.wanted_none rfl) (hC.other (by decide) (by decide)) rfl (rn_move rfl ((hF 0 (by decide +kernel)).2 (by decide)))
    · exact Tl.sl_v 57 _ rfl (Tl.wanted_none rfl) (hC.other (by decide) (by decide)) rfl (rn_f41_1 rfl ((hF 5 (by decide +kernel)).2 (by decide)))
    · exact Tl.sl_v 58 _ rfl (Tl.wanted_none rfl) (hC.other (by decide) (by decide)) rfl (rn_f28_0 rfl ((hF 57 (by decide +kernel)).1 (by decide)))
    · exact Tl.sl_v 59 _ rfl (Tl.wanted_none rfl) (hC.other (by decide) (by decide)) rfl (rn_load9 rfl ((hF 58 (by decide +kernel)).1 (by decide)) ((hC.any (Y := fun W => Has W w.heap.size #[.int .u8 2, .string nm, .string dt, kv, .int .u8 fk, .int .i64 ft, .int .i64 fn, .int .i64 fa, .int .i64 fc] 41) (fun h => h.has HBX.out HNS.out) (fun h => h.has HBX.out HNS.out) (fun h => h.has HBX.out HNS.out)).cell 1))
    · obtain ⟨S1, k1, k2, k3⟩ := (hC.first hl).st
      refine Tl.sl_call 29 #[.pointer (some ⟨b, 0, none⟩), .string nm] (Tl.wanted_none rfl) (rn_call2 rfl rfl ((hF 56 (by decide +kernel)).1 (by decide)) ((hF 59 (by decide +kernel)).1 (by decide)) (enter29 _)) ((del_any k1 HF.out (by omega) nm hnm).mono ?_)
      rintro e w'' ⟨rfl, ha⟩
      exact ⟨_, rfl, Tl.Two.did (by decide) hcl (by kernel_rfl) hl (by rw [hsz]; decide) (k3 _ _ ha), fun _ _ _ h => h, fun d hd => by cases hd; rfl⟩
    · exact Tl.sl_v 61 _ rfl (Tl.wanted_none rfl) (hC.other (by decide) (by decide)) rfl (rn_move rfl ((hF 1 (by decide +kernel)).2 (by decide)))
    · exact Tl.sl_v 62 _ rfl (Tl.wanted_none rfl) (hC.other (by decide) (by decide)) rfl (rn_f41_1 rfl ((hF 5 (by decide +kernel)).2 (by decide)))
    · exact Tl.sl_v 63 _ rfl (Tl.wanted_none rfl) (hC.other (by decide) (by decide)) rfl (rn_f28_0 rfl ((hF 62 (by decide +kernel)).1 (by decide)))
    · exact Tl.sl_v 64 _ rfl (Tl.wanted_none rfl) (hC.other (by decide) (by decide)) rfl (rn_load9 rfl ((hF 63 (by decide +kernel)).1 (by decide)) ((hC.any (Y := fun W => Has W w.heap.size #[.int .u8 2, .string nm, .string dt, kv, .int .u8 fk, .int .i64 ft, .int .i64 fn, .int .i64 fa, .int .i64 fc] 41) (fun h => h.has HBX.out HNS.out) (fun h => h.has HBX.out HNS.out) (fun h => h.has HBX.out HNS.out)).cell 1))
    · obtain ⟨S1, k1, k2, k3⟩ := (hC.second (hed 4 (by kernel_rfl)) hl).rf
      refine Tl.sl_call 45 #[.pointer (some ⟨c, 0, none⟩), .string nm] (Tl.wanted_none rfl) (rn_call2 rfl rfl ((hF 61 (by decide +kernel)).1 (by decide)) ((hF 64 (by decide +kernel)).1 (by decide)) (enter45 _)) ((refDel_any k1 HN.out HAH.out nm).mono ?_)
      rintro e w'' ⟨rfl, ha⟩
      exact ⟨_, rfl, Tl.Two.both (by decide) (hed 4 (by kernel_rfl)) (by rw [hsz]; decide) (k3 _ _ ha), fun _ _ _ h => h, fun d hd => by cases hd; rfl⟩
    · exact Tl.sl_v 66 _ rfl (Tl.wanted_none rfl) (hC.other (by decide) (by decide)) rfl (rn_eql25 rfl ((hF 60 (by decide +kernel)).1 (by decide)) ((hF 65 (by decide +kernel)).1 (by decide)) rfl)
    intro k v W2 hk hC hv
    have hX2 := hC.last (hk 4 (by decide)) (hk 9 (by decide))
    have vv : v 66 = .bool (decide ((delS s nm).1 = (delR r nm).1)) := hv 66 (by decide)
    rw [decide_eq_true HT2.out.1.symm] at vv
    have HX2 := hid (After2.front HB.out hX2)
    clear hk hC hv hX2
    simp only [Tl.fill, List.drop_succ_cons, List.drop_zero, wpList]
    rw [if_pos (Tl.wanted_none rfl)]
    simp only [Act.put, List.setIfInBounds_toArray, List.set_cons_succ, List.set_cons_zero, vv]
    clear vv
    refine .inl (wp_assign (x := .tmp 66) (d := 6) (v := .bool true) ?_ ?_ ?_ ?_)
    · rfl
    · rfl
    · rfl
    simp only [Act.put, List.setIfInBounds_toArray, List.set_cons_succ, List.set_cons_zero]
    go_wp2_with fail
    go_ret
    exact ⟨rfl, _, _, HX2.out, HT2.out.2⟩
  have e2 : ((kd : Int) == 2) = false := beq_eq_false_iff_ne.2 (by omega)
  by_cases h3 : kd = 3
  · subst h3
    have HDN := hid HTW.out.down
    have HSN := hid HTW.out.seen
    have HB := hid (boxed w (.cells #[.int .u8 3, .string nm, .string dt, kv, .int .u8 fk, .int .i64 ft, .int .i64 fn, .int .i64 fa, .int .i64 fc] 41))
    have HBX := hid (Has.new w w.heap.size #[.int .u8 3, .string nm, .string dt, kv, .int .u8 fk, .int .i64 ft, .int .i64 fn, .int .i64 fa, .int .i64 fc] 41 rfl)
    have HD := hid (h.below HB.out)
    have b1 := HBX.out.cell 1
    have b2 := HBX.out.cell 2
    have b3 := HBX.out.cell 3
    obtain ⟨wa, hwa⟩ : ∃ wa, wa = w.alloc (.cells #[.int .u8 3, .string nm, .string dt, kv, .int .u8 fk, .int .i64 ft, .int .i64 fn, .int .i64 fa, .int .i64 fc] 41) := ⟨_, rfl⟩
    rw [← hwa] at HB HBX HD b1 b2 b3
    unfold ptr
    go_enter Try.func24, Try.ntmps24
    go_wp2_with fail
    rw [← hwa]
    clear hwa
    obtain ⟨S1, k1, _, _⟩ := (After2.refl HD.out).st
    refine (list_any k1 (Nat.le_trans HTW.out.len (by omega))).mono ?_
    rintro x w1 ⟨v1, rfl, hr1, hb1⟩
    obtain ⟨T1, t1, _, _⟩ := ((After2.refl HD.out).next hb1).rf
    have HRL := refList_any t1 HN.out
    rw [HDN.out, HSN.out] at HRL
    have hML : (if s.down then [] else s.seen).length ≤ 1000000 := by
      split
      · exact Nat.zero_le _
      · exact Nat.le_trans HTW.out.len (by omega)
    have HB1 := hid hb1
    have HR1 := hid hr1
    unfold er at *
    unfold ptr at HRL
    clear HDN HSN k1 t1 hb1 hr1 b1 b2 b3
    generalize (if s.down then [] else s.seen) = M at *
    generalize (if s.down = true then (51 : Int) else 0) = z0 at *
    go_wp2_with fail
    refine HRL.mono ?_
    clear HRL
    rintro x w2 ⟨v2, rfl, hr2, hb2⟩
    have HTX := texts_any (row_below HR1.out hb2) hr2 hML
    have HB2 := hid hb2
    clear hb2 hr2
    go_wp2_with fail
    refine HTX.mono ?_
    clear HTX
    rintro x w3 ⟨rfl, hb3⟩
    have HB3 := hid hb3
    clear hb3
    have q2 : (z0 == z0) = true := by simp
    go_wp2_with fail
    go_ret
    exact ⟨rfl, s, r, After2.front HB.out ((((After2.refl HD.out).next HB1.out).next HB2.out).next HB3.out), HTW.out.more (Nat.le_succ _)⟩
  have e3 : ((kd : Int) == 3) = false := beq_eq_false_iff_ne.2 (by omega)
  by_cases h4 : kd = 4
  · subst h4
    have HT2 := hid HTW.out.sync
    have HB := hid (boxed w (.cells #[.int .u8 4, .string nm, .string dt, kv, .int .u8 fk, .int .i64 ft, .int .i64 fn, .int .i64 fa, .int .i64 fc] 41))
    have HBX := hid (Has.new w w.heap.size #[.int .u8 4, .string nm, .string dt, kv, .int .u8 fk, .int .i64 ft, .int .i64 fn, .int .i64 fa, .int .i64 fc] 41 rfl)
    have HD := hid (h.below HB.out)
    have b1 := HBX.out.cell 1
    have b2 := HBX.out.cell 2
    have b3 := HBX.out.cell 3
    obtain ⟨wa, hwa⟩ : ∃ wa, wa = w.alloc (.cells #[.int .u8 4, .string nm, .string dt, kv, .int .u8 fk, .int .i64 ft, .int .i64 fn, .int .i64 fa, .int .i64 fc] 41) := ⟨_, rfl⟩
    rw [← hwa] at HB HBX HD b1 b2 b3
    unfold ptr
    go_enter Try.func24, Try.ntmps24
    go_wp2_with fail
    rw [← hwa]
    clear hwa
    obtain ⟨S1, k1, _, k3⟩ := (After2.refl HD.out).st
    refine (sync_any k1).mono ?_
    rintro x w1 ⟨rfl, ha1⟩
    have HA1 := hid (k3 _ _ ha1)
    obtain ⟨T1, t1, _, t3⟩ := HA1.out.rf
    have HRS := refSync_any t1 HN.out
    have HT3 := hid t3
    unfold er
    unfold ptr at HRS
    have q2 : ((Ytpeeelnkelnlkaa.sync s).1 == (syncR r).1) = true := by rw [HT2.out.1]; simp
    clear k1 k3 ha1 t1 t3 b1 b2 b3
    generalize hz1 : (Ytpeeelnkelnlkaa.sync s).1 = z1 at *
    generalize hz2 : (syncR r).1 = z2 at *
    clear hz1 hz2
    go_wp2_with fail
    refine HRS.mono ?_
    clear HRS
    rintro x w2 ⟨rfl, ha2⟩
    have HA2 := hid (HT3.out _ _ ha2)
    clear ha2 HT3
    go_wp2_with fail
    go_ret
    exact ⟨rfl, _, _, After2.front HB.out HA2.out, HT2.out.2⟩
  have e4 : ((kd : Int) == 4) = false := beq_eq_false_iff_ne.2 (by omega)
  by_cases h5 : kd = 5
  · subst h5
    have HT2 := hid (HTW.out.crash ks)
    have HB := hid (boxed w (.cells #[.int .u8 5, .string nm, .string dt, kv, .int .u8 fk, .int .i64 ft, .int .i64 fn, .int .i64 fa, .int .i64 fc] 41))
    have HBX := hid (Has.new w w.heap.size #[.int .u8 5, .string nm, .string dt, kv, .int .u8 fk, .int .i64 ft, .int .i64 fn, .int .i64 fa, .int .i64 fc] 41 rfl)
    have HD := hid (h.below HB.out)
    have b1 := HBX.out.cell 1
    have b2 := HBX.out.cell 2
    have b3 := HBX.out.cell 3
    obtain ⟨wa, hwa⟩ : ∃ wa, wa = w.alloc (.cells #[.int .u8 5, .string nm, .string dt, kv, .int .u8 fk, .int .i64 ft, .int .i64 fn, .int .i64 fa, .int .i64 fc] 41) := ⟨_, rfl⟩
    rw [← hwa] at HB HBX HD b1 b2 b3
    unfold ptr
    go_enter Try.func24, Try.ntmps24
    go_wp2_with fail
    rw [← hwa]
    clear hwa
    obtain ⟨T1, t1, t2, t3⟩ := (After2.refl HD.out).rf
    have hno : ∀ g o n c', kv = .slice (some ⟨g, o, none⟩) n c' → 0 < n → ∀ i, (S i ∨ wa.heap.size ≤ i) → i ≠ g := fun g o n c' e1 e2 i hi e3 => by
      subst e3
      rcases hi with hi | hi
      · exact hkS _ _ _ _ e1 e2 hi
      · have := RdI.lt hkp e1 e2
        have := HB.out.size
        omega
    refine (refCrash_any t1 HN.out kv ks (hkp.below HB.out) (by omega) (fun g o n c' e1 e2 hT => hno g o n c' e1 e2 g (t2 g hT) rfl)).mono ?_
    rintro x w1 ⟨rfl, ha1⟩
    have HA1 := hid (t3 _ _ ha1)
    obtain ⟨S1, k1, k2, k3⟩ := HA1.out.st
    have hkp1 : RdI w1 kv ks := by
      obtain ⟨_, _, _, ho⟩ := HA1.out
      exact (hkp.below HB.out).only ho hkS
    have HC := crash_any k1 HF.out (by omega) HTW.out.lives kv ks hkp1 (by omega) (fun g o n c' e1 e2 hT => hno g o n c' e1 e2 g (k2 g hT) rfl)
    have b3' : w1.cell? ⟨w.heap.size, 3, none⟩ = some kv := (HA1.out.has HBX.out HNS.out).cell 3
    have HK3 := hid k3
    unfold er ptr at HC
    clear t1 t2 t3 ha1 k1 k2 k3 hkp1 hno b1 b2 b3
    go_wp2_with fail
    refine HC.mono ?_
    clear HC
    rintro x w2 ⟨rfl, ha2⟩
    have HA2 := hid (HK3.out _ _ ha2)
    clear ha2 HK3
    go_wp2_with fail
    go_ret
    exact ⟨rfl, _, _, After2.front HB.out HA2.out, HT2.out⟩
  have e5 : ((kd : Int) == 5) = false := beq_eq_false_iff_ne.2 (by omega)
  have HT2 := hid (HTW.out.strike fk fn fa fc hf2)
  have HB := hid (boxed w (.cells #[.int .u8 (kd : Int), .string nm, .string dt, kv, .int .u8 fk, .int .i64 ft, .int .i64 fn, .int .i64 fa, .int .i64 fc] 41))
  have HBX := hid (Has.new w w.heap.size #[.int .u8 (kd : Int), .string nm, .string dt, kv, .int .u8 fk, .int .i64 ft, .int .i64 fn, .int .i64 fa, .int .i64 fc] 41 rfl)
  have HD := hid (h.below HB.out)
  have b1 := HBX.out.cell 1
  have b2 := HBX.out.cell 2
  have b3 := HBX.out.cell 3
  obtain ⟨wa, hwa⟩ : ∃ wa, wa = w.alloc (.cells #[.int .u8 (kd : Int), .string nm, .string dt, kv, .int .u8 fk, .int .i64 ft, .int .i64 fn, .int .i64 fa, .int .i64 fc] 41) := ⟨_, rfl⟩
  rw [← hwa] at HB HBX HD b1 b2 b3
  unfold ptr
  go_enter Try.func24, Try.ntmps24
  go_wp2_with fail
  rw [← hwa]
  clear hwa
  refine Tl.wp_mixL_lit (by kernel_rfl) 9 [105, 106, 107, 108, 109, 110, 111, 112, 113] 114 rfl (by kernel_rfl) (Tl.Two 3 7 (fun W => After2 wa W S b c s r) (fun W => After2 wa W S b c (strikeS s fk fn fa fc).2 r) (fun W => After2 wa W S b c (strikeS s fk fn fa fc).2 (strikeR r fk fn fa fc).2)) (acF6 b c w.heap.size nm dt fk ft fn fa fc (strikeS s fk fn fa fc).1 (strikeR r fk fn fa fc).1) (show Tl.Two _ _ _ _ _ _ _ from by unfold Tl.Two; rw [if_neg (by decide)]; exact (After2.refl HD.out).next (Below.refl _ _).drew)
    ⟨fun l a' W' hsz hl hcl hed hC hF => ?_, fun l a' W' hsz hl hcl hed hC hF => ?_, fun l a' W' hsz hl hcl hed hC hF => ?_, fun l a' W' hsz hl hcl hed hC hF => ?_, fun l a' W' hsz hl hcl hed hC hF => ?_, fun l a' W' hsz hl hcl hed hC hF => ?_, fun l a' W' hsz hl hcl hed hC hF => ?_, fun l a' W' hsz hl hcl hed hC hF => ?_, fun l a' W' hsz hl hcl hed hC hF => ?_, trivial⟩ ?_
  · exact Tl.sl_v 105 _ rfl (Tl.wanted_none rfl) (hC.other (by decide) (by decide)) rfl (rn_move rfl ((hF 0 (by decide +kernel)).2 (by decide)))
  · exact Tl.sl_v 106 _ rfl (Tl.wanted_none rfl) (hC.other (by decide) (by decide)) rfl (rn_f41_3 rfl ((hF 5 (by decide +kernel)).2 (by decide)))
  · exact Tl.sl_v 107 _ rfl (Tl.wanted_none rfl) (hC.other (by decide) (by decide)) rfl (rn_load32 rfl ((hF 106 (by decide +kernel)).1 (by decide)) ((hC.any (Y := fun W => Has W w.heap.size #[.int .u8 (kd : Int), .string nm, .string dt, kv, .int .u8 fk, .int .i64 ft, .int .i64 fn, .int .i64 fa, .int .i64 fc] 41) (fun h => h.has HBX.out HNS.out) (fun h => h.has HBX.out HNS.out) (fun h => h.has HBX.out HNS.out)).cell 4) ((hC.any (Y := fun W => Has W w.heap.size #[.int .u8 (kd : Int), .string nm, .string dt, kv, .int .u8 fk, .int .i64 ft, .int .i64 fn, .int .i64 fa, .int .i64 fc] 41) (fun h => h.has HBX.out HNS.out) (fun h => h.has HBX.out HNS.out) (fun h => h.has HBX.out HNS.out)).cell 5) ((hC.any (Y := fun W => Has W w.heap.size #[.int .u8 (kd : Int), .string nm, .string dt, kv, .int .u8 fk, .int .i64 ft, .int .i64 fn, .int .i64 fa, .int .i64 fc] 41) (fun h => h.has HBX.out HNS.out) (fun h => h.has HBX.out HNS.out) (fun h => h.has HBX.out HNS.out)).cell 6) ((hC.any (Y := fun W => Has W w.heap.size #[.int .u8 (kd : Int), .string nm, .string dt, kv, .int .u8 fk, .int .i64 ft, .int .i64 fn, .int .i64 fa, .int .i64 fc] 41) (fun h => h.has HBX.out HNS.out) (fun h => h.has HBX.out HNS.out) (fun h => h.has HBX.out HNS.out)).cell 7) ((hC.any (Y := fun W => Has W w.heap.size #[.int .u8 (kd : Int), .string nm, .string dt, kv, .int .u8 fk, .int .i64 ft, .int .i64 fn, .int .i64 fa, .int .i64 fc] 41) (fun h => h.has HBX.out HNS.out) (fun h => h.has HBX.out HNS.out) (fun h => h.has HBX.out HNS.out)).cell 8))
  · obtain ⟨S1, k1, k2, k3⟩ := (hC.first hl).st
    refine Tl.sl_call 15 #[.pointer (some ⟨b, 0, none⟩), .agg #[.int .u8 fk, .int .i64 ft, .int .i64 fn, .int .i64 fa, .int .i64 fc]] (Tl.wanted_none rfl) (rn_call2 rfl rfl ((hF 105 (by decide +kernel)).1 (by decide)) ((hF 107 (by decide +kernel)).1 (by decide)) (enter15 _)) ((strike_any k1 HF.out (by omega) fk ft fn fa fc hf0 hf1 hf2 hf3).mono ?_)
    rintro e w'' ⟨rfl, ha⟩
    exact ⟨_, rfl, Tl.Two.did (by decide) hcl (by kernel_rfl) hl (by rw [hsz]; decide) (k3 _ _ ha), fun _ _ _ h => h, fun d hd => by cases hd; rfl⟩
  · exact Tl.sl_v 109 _ rfl (Tl.wanted_none rfl) (hC.other (by decide) (by decide)) rfl (rn_move rfl ((hF 1 (by decide +kernel)).2 (by decide)))
  · exact Tl.sl_v 110 _ rfl (Tl.wanted_none rfl) (hC.other (by decide) (by decide)) rfl (rn_f41_3 rfl ((hF 5 (by decide +kernel)).2 (by decide)))
  · exact Tl.sl_v 111 _ rfl (Tl.wanted_none rfl) (hC.other (by decide) (by decide)) rfl (rn_load32 rfl ((hF 110 (by decide +kernel)).1 (by decide)) ((hC.any (Y := fun W => Has W w.heap.size #[.int .u8 (kd : Int), .string nm, .string dt, kv, .int .u8 fk, .int .i64 ft, .int .i64 fn, .int .i64 fa, .int .i64 fc] 41) (fun h => h.has HBX.out HNS.out) (fun h => h.has HBX.out HNS.out) (fun h => h.has HBX.out HNS.out)).cell 4) ((hC.any (Y := fun W => Has W w.heap.size #[.int .u8 (kd : Int), .string nm, .string dt, kv, .int .u8 fk, .int .i64 ft, .int .i64 fn, .int .i64 fa, .int .i64 fc] 41) (fun h => h.has HBX.out HNS.out) (fun h => h.has HBX.out HNS.out) (fun h => h.has HBX.out HNS.out)).cell 5) ((hC.any (Y := fun W => Has W w.heap.size #[.int .u8 (kd : Int), .string nm, .string dt, kv, .int .u8 fk, .int .i64 ft, .int .i64 fn, .int .i64 fa, .int .i64 fc] 41) (fun h => h.has HBX.out HNS.out) (fun h => h.has HBX.out HNS.out) (fun h => h.has HBX.out HNS.out)).cell 6) ((hC.any (Y := fun W => Has W w.heap.size #[.int .u8 (kd : Int), .string nm, .string dt, kv, .int .u8 fk, .int .i64 ft, .int .i64 fn, .int .i64 fa, .int .i64 fc] 41) (fun h => h.has HBX.out HNS.out) (fun h => h.has HBX.out HNS.out) (fun h => h.has HBX.out HNS.out)).cell 7) ((hC.any (Y := fun W => Has W w.heap.size #[.int .u8 (kd : Int), .string nm, .string dt, kv, .int .u8 fk, .int .i64 ft, .int .i64 fn, .int .i64 fa, .int .i64 fc] 41) (fun h => h.has HBX.out HNS.out) (fun h => h.has HBX.out HNS.out) (fun h => h.has HBX.out HNS.out)).cell 8))
  · obtain ⟨S1, k1, k2, k3⟩ := (hC.second (hed 3 (by kernel_rfl)) hl).rf
    refine Tl.sl_call 50 #[.pointer (some ⟨c, 0, none⟩), .agg #[.int .u8 fk, .int .i64 ft, .int .i64 fn, .int .i64 fa, .int .i64 fc]] (Tl.wanted_none rfl) (rn_call2 rfl rfl ((hF 109 (by decide +kernel)).1 (by decide)) ((hF 111 (by decide +kernel)).1 (by decide)) (enter50 _)) ((refStrike_any k1 HN.out HDT.out fk ft fn fa fc hf2 hf3).mono ?_)
    rintro e w'' ⟨rfl, ha⟩
    exact ⟨_, rfl, Tl.Two.both (by decide) (hed 3 (by kernel_rfl)) (by rw [hsz]; decide) (k3 _ _ ha), fun _ _ _ h => h, fun d hd => by cases hd; rfl⟩
  · exact Tl.sl_v 113 _ rfl (Tl.wanted_none rfl) (hC.other (by decide) (by decide)) rfl (rn_eql25 rfl ((hF 108 (by decide +kernel)).1 (by decide)) ((hF 112 (by decide +kernel)).1 (by decide)) rfl)
  intro k v W2 hk hC hv
  have hX2 := hC.last (hk 3 (by decide)) (hk 7 (by decide))
  have vv : v 113 = .bool (decide ((strikeS s fk fn fa fc).1 = (strikeR r fk fn fa fc).1)) := hv 113 (by decide)
  rw [decide_eq_true HT2.out.1.symm] at vv
  have HX2 := hid (After2.front HB.out hX2)
  clear hk hC hv hX2
  simp only [Tl.fill, List.drop_succ_cons, List.drop_zero, wpList]
  rw [if_pos (Tl.wanted_none rfl)]
  simp only [Act.put, List.setIfInBounds_toArray, List.set_cons_succ, List.set_cons_zero, vv]
  clear vv
  refine .inl (wp_assign (x := .tmp 113) (d := 6) (v := .bool true) ?_ ?_ ?_ ?_)
  · rfl
  · rfl
  · rfl
  simp only [Act.put, List.setIfInBounds_toArray, List.set_cons_succ, List.set_cons_zero]
  go_wp2_with fail
  go_ret
  exact ⟨rfl, _, _, HX2.out, HT2.out.2⟩
end Go.Proofs.Ytpeeelnkelnlkaa
