/- The contracts of Copy and of what it calls. -/
import Derived.Test.YtmpgfpmkmgebdaaGreatDoorWCrash2
import Derived.Laws.StructEq
import Derived.Test.YtmpgfpmkmgebdaaGreatDoorWTl
namespace Go.Proofs.YtmpgfpmkmgebdaaGreatDoor.W
open Go.RowKit Go.Maps
theorem eqs0 (w : World) : (binOp .eql 99 (.slice none 0 0) (.slice none 0 0)).run Tryz.prog w = .ok (.bool true) w := by kernel_rfl
theorem eqs1 (a : Addr) (n c : Nat) (w : World) : (binOp .eql 99 (.slice (some a) n c) (.slice none 0 0)).run Tryz.prog w = .ok (.bool false) w := by kernel_rfl
set_option maxHeartbeats 1000000 in
set_option maxRecDepth 20000 in
theorem cloneW_any {w : World} {v : Value} {n : Nat} {xs : List Value} (h : w.ownsRow 0 122 5 v n xs) (hn : n ≤ 1000000) (h1 : ∀ u ∈ xs, u.oneCell' = true) : Calls Tryz.prog 82 #[v] w fun e w' => ∃ v', e = .returned v' ∧ w'.ownsRow w.heap.size 122 5 v' n xs ∧ Below w.heap.size w w' := by
  obtain ⟨i, z, bytes, i1, i2, i3, i4, i5, i6⟩ := el83.info
  have hx := h.1
  have hq0 := eqs0
  have hq1 := eqs1
  rcases row_form h with ⟨rfl, rfl, rfl⟩ | ⟨g, cap, rfl, hg, _, hcap, _, hc⟩
  · go_enter Tryz.func82, Tryz.ntmps82
    go_wp2_with fail
    go_ret
    exact ⟨_, rfl, World.ownsRow_nil _ _ _ _, Below.refl _ _⟩
  · have hown := World.ownsRow_made (size := 5) (base := w.heap.size) (e := 122) w #[] 0 (Nat.le_refl _) (by unfold maxLen; omega) rfl
    have hcc : ∀ j u, xs[j]? = some u → (w.alloc (.cells #[] 122)).cell? ((⟨g, 0, none⟩ : Addr).add j) = some u := fun j u hu => by
      have e : (⟨g, 0, none⟩ : Addr).add j = ⟨g, j, none⟩ := by unfold Addr.add; split <;> simp_all
      rw [e, (boxed w (.cells #[] 122)).cell (p := ⟨g, j, none⟩) hg]
      exact hc j u hu
    clear h hc
    go_enter Tryz.func82, Tryz.ntmps82
    go_wp2_with (at_builtin; refine wpList_append_own _ rfl _ _ 99 rfl w.heap.size 122 i z 5 bytes Tryz.underlying99 i1 i2 i3 i4 i5 (by decide) _ 0 [] rfl hown ⟨g, 0, none⟩ n cap xs rfl hx hcc h1 (by unfold maxLen; omega) (by rw [Nat.zero_add]; exact Nat.le_trans (Nat.mul_le_mul hn i6) (by omega)) (by simp) ?_; intro v' w' hr' hg' hn')
    go_ret
    have hr2 : w'.ownsRow w.heap.size 122 5 v' n xs := by simpa using hr'
    exact ⟨v', rfl, hr2, (boxed w (.cells #[] 122)).grown hg' (by simp) fun j hj => by
      have e : some w.heap.size = some j := hj
      cases e; exact Nat.le_refl _⟩
theorem writes_one (ws : List Wr) : ∀ u ∈ ws.flatMap wcells, u.oneCell' = true := by
  intro u hu
  obtain ⟨q, _, hq⟩ := List.mem_flatMap.1 hu
  exact wcells_one q u hq
set_option maxHeartbeats 2000000 in
set_option maxRecDepth 20000 in
theorem copy_any {w : World} {S : Nat → Prop} {b : Nat} {s : St} (h : IsSt w S b s) (hn : s.writes.length ≤ 1000000) : Calls Tryz.prog 59 #[ptr b] w fun e w' => ∃ b' S', e = .returned (ptr b') ∧ IsSt w' S' b' s ∧ (∀ i, S' i → w.heap.size ≤ i) ∧ Below w.heap.size w w' := by
  obtain ⟨mo, wv, h1, h2, h3, h4, h5, h6, h7, h8⟩ := h
  obtain ⟨c0, c1, c2, c3, c4, c5, c6⟩ := scells_cell h1
  obtain ⟨wa, wc, rfl⟩ := row_slice h3
  have hb := h1.lt
  have HA := hid (Has.new w w.heap.size (scells mo (.slice wa s.writes.length wc) s) 103 rfl)
  have HB := hid (boxed w (.cells (scells mo (.slice wa s.writes.length wc) s) 103))
  have hcl : ∀ W, Below w.heap.size w W → Calls Tryz.prog 81 #[.map mo] W fun e w' => ∃ mo', e = .returned (.map mo') ∧ MapV w' mo' s.seen ∧ (∀ m, mo' = some m → W.heap.size ≤ m ∧ m < w'.heap.size) ∧ mo'.isSome = s.live ∧ Below W.heap.size W w' := fun W hW => by
    cases mo with
    | none => exact (Tryz.maps_Clone_nil W).mono fun e w' ⟨e1, e2⟩ => ⟨none, e1, h2, fun m hm => (by cases hm), h8, by rw [e2]; exact Below.refl _ _⟩
    | some m =>
      have hM : MapIs W m s.seen := MapIs.below h2 hW
      exact (Tryz.maps_Clone_owns 9 contR m _ _ W hM.1).mono fun e w' ⟨e1, e2, e3, e4⟩ => ⟨some W.heap.size, e1, ⟨e2, hM.2⟩, fun k hk => by cases hk; exact ⟨Nat.le_refl _, e2.lt⟩, h8, e4⟩
  have hcw : ∀ W, Below w.heap.size w W → Calls Tryz.prog 82 #[.slice wa s.writes.length wc] W fun e w' => ∃ v', e = .returned v' ∧ w'.ownsRow W.heap.size 122 5 v' s.writes.length (s.writes.flatMap wcells) ∧ Below W.heap.size W w' := fun W hW => cloneW_any (row_below h3 hW) hn (writes_one _)
  have HCL := hid hcl
  have HCW := hid hcw
  have H1 := hid h1
  clear h1 h2 h3 h4 h5 h6 h7 hcl hcw
  unfold ptr
  go_enter Tryz.func59, Tryz.ntmps59
  go_wp2_with fail
  refine (HCL.out _ HB.out).mono ?_
  rintro e w1 ⟨mo', rfl, m1, m2, m3, m4⟩
  have a1 : Has w1 w.heap.size (scells mo (.slice wa s.writes.length wc) s) 103 := HA.out.below m4 HA.out.lt
  have hsA : (w.alloc (.cells (scells mo (.slice wa s.writes.length wc) s) 103)).heap.size = w.heap.size + 1 := by simp
  have B1 : Below w.heap.size w w1 := HB.out.trans (m4.mono (by rw [hsA]; omega))
  have f0 := a1.frozen 0
  have k0 : w1.cell? ⟨w.heap.size, 0, none⟩ = some (.map mo) := a1.cell 0
  have B2 : Below w.heap.size w (w1.setCell ⟨w.heap.size, 0, none⟩ (.map mo')) := B1.setCell (Nat.le_refl _) _
  have b1 : Has (w1.setCell ⟨w.heap.size, 0, none⟩ (.map mo')) b (scells mo (.slice wa s.writes.length wc) s) 103 := H1.out.below B2 hb
  have k1 : (w1.setCell ⟨w.heap.size, 0, none⟩ (.map mo')).cell? ⟨b, 1, none⟩ = some (.slice wa s.writes.length wc) := b1.cell 1
  have HA1 := hid a1
  have HB2 := hid B2
  have HM1 := hid m1
  have HM2 := hid m2
  have HM3 := hid m3
  have hcw2 := HCW.out _ B2
  have hsz1 : w.heap.size + 1 ≤ w1.heap.size := by have := m4.size; rw [hsA] at this; exact this
  clear m1 m2 m3 m4 a1 B1 B2 b1 c0 c1 c2 c3 c4 c5 c6 HCL HCW
  go_wp2_with fail
  refine hcw2.mono ?_
  rintro e w3 ⟨v', rfl, r1, r2⟩
  obtain ⟨va, vc, rfl⟩ := row_slice r1
  have a2 : Has (w1.setCell ⟨w.heap.size, 0, none⟩ (.map mo')) w.heap.size (scells mo' (.slice wa s.writes.length wc) s) 103 := HA1.out.set 0 _
  have a3 := a2.below r2 a2.lt
  have f1 := a3.frozen 1
  have k2 : w3.cell? ⟨w.heap.size, 1, none⟩ = some (.slice wa s.writes.length wc) := a3.cell 1
  have a4 : Has (w3.setCell ⟨w.heap.size, 1, none⟩ (.slice va s.writes.length vc)) w.heap.size (scells mo' (.slice va s.writes.length vc) s) 103 := a3.set 1 _
  have hM3 : MapV w3 mo' s.seen := (MapV.setb HM1.out HA1.out 0 _).block fun m _ hl => r2.block m hl
  have hlt3 : w1.heap.size ≤ w3.heap.size := by have := r2.size; simpa [World.setCell] using this
  have hFin : Hid (IsSt (w3.setCell ⟨w.heap.size, 1, none⟩ (.slice va s.writes.length vc)) (fun i => w.heap.size ≤ i ∧ i < w3.heap.size) w.heap.size s) := hid
    ⟨mo', .slice va s.writes.length vc, a4, hM3.setb a3 _ _, row_setb (row_base r1 (Nat.zero_le _)) a3 (by decide) _ _, ⟨Nat.le_refl _, by omega⟩, fun m hm => by
      have := HM2.out m hm
      rw [hsA] at this
      exact ⟨by omega, by omega⟩, fun g hg => by
      have := r1.lt g hg
      have e : (w1.setCell ⟨w.heap.size, 0, none⟩ (.map mo')).heap.size = w1.heap.size := by simp [World.setCell]
      rw [e] at this
      exact ⟨by omega, this.2⟩, fun i hi => by simpa [World.setCell] using hi.2, HM3.out⟩
  have hBF : Hid (Below w.heap.size w (w3.setCell ⟨w.heap.size, 1, none⟩ (.slice va s.writes.length vc))) := hid ((HB2.out.trans (r2.mono (by simp [World.setCell]; omega))).setCell (Nat.le_refl _) _)
  clear r1 r2 a2 a3 a4 hM3 hcw2 k0 k1 f0 HA1 HB2 HM1 HM2 HM3
  go_wp2_with fail
  go_ret
  exact ⟨w.heap.size, _, rfl, hFin.out, fun i hi => hi.1, hBF.out⟩
end Go.Proofs.YtmpgfpmkmgebdaaGreatDoor.W
/- What '==' says of structs. -/
namespace Go.Proofs.YtmpgfpmkmgebdaaGreatDoor.W
open Go.RowKit Go.Maps
end Go.Proofs.YtmpgfpmkmgebdaaGreatDoor.W
/- What several texts need: gathered. -/
namespace Go.Proofs.YtmpgfpmkmgebdaaGreatDoor.W
open Go.RowKit Go.Maps
section
variable {ev : Operand → Value} {o : Oper} {w : World} {x y z : Operand}
theorem rn_pickT {v : Value} (ho : o.op = .pick x y z) (hx : ev x = .bool true) (hy : ev y = v) : (execOp ev o).run Tryz.prog w = .ok (.value v) w := by
  subst hy; simp [execOp, ho, hx, go_sem]
theorem rn_pickF {v : Value} (ho : o.op = .pick x y z) (hx : ev x = .bool false) (hz : ev z = v) : (execOp ev o).run Tryz.prog w = .ok (.value v) w := by
  subst hz; simp [execOp, ho, hx, go_sem]
end
theorem RdI.below {W W' : World} {v : Value} {ks : List Int} (h : RdI W v ks) (hb : Below W.heap.size W W') : RdI W' v ks := by
  rcases h with h | ⟨g, o, cap, e0, e, hg, hc⟩
  · exact .inl h
  · exact .inr ⟨g, o, cap, e0, e, Nat.lt_of_lt_of_le hg hb.size, fun j z hz => by rw [hb.cell (p := ⟨g, o + j, none⟩) hg]; exact hc j z hz⟩
theorem RdI.form {W : World} {v : Value} {ks : List Int} (h : RdI W v ks) : ∃ a c, v = .slice a ks.length c := by
  rcases h with ⟨A, c, rfl, rfl⟩ | ⟨g, o, cap, _, rfl, _⟩
  · exact ⟨A, c, rfl⟩
  · exact ⟨_, _, rfl⟩
theorem wp_assign {o : Oper} {a : Act} {w : World} {K : Act → World → Prop} {Q : Exit → Act → World → Prop} {x : Operand} {d : Nat} {v : Value} (ho : o.op = .assign x) (hd : o.dst = some d) (hx : a.eval x = v) (h : K (a.put (some d) v) w) : o.wp Tryz.prog a w K Q := by
  unfold Oper.wp
  rw [rn_assign ho hx]
  show K (a.put o.dst v) w
  rw [hd]; exact h
theorem wrapN {a b : Nat} (h : a + b ≤ 9223372036854775807) : IntKind.i64.wrap ((a : Int) + (b : Int)) = ((a + b : Nat) : Int) := by
  rw [wrap_i64_of (by omega) (by omega)]; omega
theorem Fit.more {N N' : Nat} {s : St} (h : Fit N s) (hN : N ≤ N') : Fit N' s := ⟨Nat.le_trans h.seen hN, Nat.le_trans h.writes hN, h.names, h.datas, h.wnames, h.was, h.now, h.refuse, h.room⟩
theorem counted_eq (s : St) : (counted s).2 = { s with refuse := (counted s).2.refuse } := by
  unfold counted; split <;> (cases s; simp_all)
theorem counted_refuse (s : St) : ((counted s).1 = false ∧ s.refuse = none ∧ (counted s).2.refuse = none) ∨ (∃ m, (counted s).1 = false ∧ s.refuse = some (m + 1) ∧ (counted s).2.refuse = some m) ∨ ((counted s).1 = true ∧ s.refuse = some 0 ∧ (counted s).2.refuse = none) := by
  unfold counted
  cases h : s.refuse with
  | none => exact .inl ⟨rfl, rfl, h⟩
  | some n => cases n with
    | zero => exact .inr (.inr ⟨rfl, rfl, rfl⟩)
    | succ m => exact .inr (.inl ⟨m, rfl, rfl, rfl⟩)
/-- what a write that was tried did -/
inductive Did (s : St) (n : ByteArray) (c : Option ByteArray) : Int → St → Prop
  | ok (r : Option Nat) (h : (s.refuse = none ∧ r = none) ∨ ∃ m, s.refuse = some (m + 1) ∧ r = some m) : Did s n c 0 { s with refuse := r, live := s.live || c.isSome, seen := setC n c s.seen, writes := s.writes ++ [⟨n, look n s.seen, c⟩] }
  | no (h : s.refuse = some 0) : Did s n c 53 { s with refuse := none }
theorem tried_did (s : St) (n : ByteArray) (c : Option ByteArray) : Did s n c (tried s n c).1 (tried s n c).2 := by
  have e := counted_eq s
  rcases counted_refuse s with ⟨h1, h2, h3⟩ | ⟨m, h1, h2, h3⟩ | ⟨h1, h2, h3⟩
  · unfold tried
    rw [h1, e, h3]
    exact Did.ok none (.inl ⟨h2, rfl⟩)
  · unfold tried
    rw [h1, e, h3]
    exact Did.ok (some m) (.inr ⟨m, h2, rfl⟩)
  · unfold tried
    rw [h1, e, h3]
    exact Did.no h2
theorem setC_len (n : ByteArray) (c : Option ByteArray) (M : List Ob) : (setC n c M).length ≤ M.length + 1 := by
  have h1 : ∀ n, (drop n M).length ≤ M.length := fun n => List.length_filter_le _ _
  cases c with
  | none => exact Nat.le_succ_of_le (h1 n)
  | some d =>
    have h2 : ∀ (o : Ob) (L : List Ob), (ins o L).length = L.length + 1 := fun o L => by
      induction L with
      | nil => rfl
      | cons p r ih => unfold ins; split <;> simp [ih]
    show (put (n, d) M).length ≤ _
    unfold put
    rw [h2]
    have := h1 n
    show (drop n M).length + 1 ≤ _
    omega
theorem mem_setC' {n : ByteArray} {c : Option ByteArray} {M : List Ob} {p : Ob} (h : p ∈ setC n c M) : p ∈ M ∨ (p.1 = n ∧ c = some p.2) := by
  cases c with
  | none => exact .inl (mem_drop.1 h).1
  | some d =>
    rcases mem_put.1 h with rfl | h
    · exact .inr ⟨rfl, rfl⟩
    · exact .inl h.1
theorem look_mem {n d : ByteArray} {M : List Ob} (h : look n M = some d) : ∃ p ∈ M, p.1 = n ∧ p.2 = d := by
  unfold look at h
  cases hf : M.find? (fun p => decide (p.1 = n)) with
  | none => rw [hf] at h; cases h
  | some p =>
    rw [hf] at h
    exact ⟨p, List.mem_of_find?_eq_some hf, by simpa using List.find?_some hf, by simpa using h⟩
theorem look_size {n : ByteArray} {M : List Ob} {K : Nat} (h : ∀ p ∈ M, p.2.size ≤ K) : ((look n M).getD ⟨#[]⟩).size ≤ K := by
  cases hl : look n M with
  | none => exact Nat.zero_le _
  | some d => obtain ⟨p, hp, _, rfl⟩ := look_mem hl; exact h p hp
theorem Did.fit {s : St} {n : ByteArray} {c : Option ByteArray} {e : Int} {s' : St} (h : Did s n c e s') {N : Nat} (hF : Fit N s) (hn : n.size ≤ 80) (hc : (c.getD ⟨#[]⟩).size ≤ 65536) : Fit (N + 1) s' := by
  cases h with
  | no h => exact ⟨Nat.le_succ_of_le hF.seen, Nat.le_succ_of_le hF.writes, hF.names, hF.datas, hF.wnames, hF.was, hF.now, fun k hk => (by cases hk), hF.room⟩
  | ok r h =>
    refine ⟨Nat.le_trans (setC_len _ _ _) (Nat.succ_le_succ hF.seen), ?_, ?_, ?_, ?_, ?_, ?_, ?_, hF.room⟩
    · have := hF.writes; simp; omega
    · intro p hp
      rcases mem_setC' hp with h | ⟨h, _⟩
      · exact hF.names p h
      · rw [h]; exact hn
    · intro p hp
      rcases mem_setC' hp with h | ⟨_, h⟩
      · exact hF.datas p h
      · rw [h] at hc; exact hc
    · intro q hq
      rcases List.mem_append.1 hq with h | h
      · exact hF.wnames q h
      · rw [List.mem_singleton] at h; subst h; exact hn
    · intro q hq
      rcases List.mem_append.1 hq with h | h
      · exact hF.was q h
      · rw [List.mem_singleton] at h; subst h; exact look_size hF.datas
    · intro q hq
      rcases List.mem_append.1 hq with h | h
      · exact hF.now q h
      · rw [List.mem_singleton] at h; subst h; exact hc
    · intro k hk
      rcases h with ⟨_, h⟩ | ⟨m, h1, h⟩
      · rw [h] at hk; cases hk
      · rw [h] at hk; cases hk; have := hF.refuse _ h1; omega
/-- what put did -/
theorem put_did (s : St) (n d : ByteArray) : ((putS s n d).1 ≠ 0 ∧ (putS s n d).1 ≠ 53 ∧ (putS s n d).2 = s) ∨ (n.size ≤ 80 ∧ d.size ≤ 65536 ∧ Did s n (some d) (putS s n d).1 (putS s n d).2) := by
  unfold putS
  by_cases h1 : badName n d = true
  · rw [if_pos h1]; exact .inl ⟨by simp, by simp, rfl⟩
  · rw [if_neg h1]
    by_cases h2 : s.down = true
    · rw [if_pos h2]; exact .inl ⟨by simp, by simp, rfl⟩
    · rw [if_neg h2]
      by_cases h3 : over s n d = true
      · rw [if_pos h3]; exact .inl ⟨by simp, by simp, rfl⟩
      · rw [if_neg h3]
        unfold badName at h1
        simp only [Bool.or_eq_true, decide_eq_true_eq, not_or] at h1
        exact .inr ⟨by omega, by omega, tried_did _ _ _⟩
theorem put_fit {N : Nat} {s : St} (hF : Fit N s) (n d : ByteArray) : Fit (N + 1) (putS s n d).2 := by
  rcases put_did s n d with ⟨_, _, h⟩ | ⟨h1, h2, h⟩
  · rw [h]; exact hF.more (Nat.le_succ _)
  · exact h.fit hF h1 h2
end Go.Proofs.YtmpgfpmkmgebdaaGreatDoor.W
/- Drawn regions whose calls write: what is done is told by which operations have been run. -/
namespace Go.Proofs.YtmpgfpmkmgebdaaGreatDoor.W
open Go.RowKit Go.Maps
namespace Tl
theorem wp_region_mixL {P : Program} {ops : Array Oper} {Q : Exit → Act → World → Prop} {id : Nat} {a : Act} {w : World} (hm : P.follows .mixedOrders = true) (h : Nat) (ds : List Nat) (N : Nat) (hN : a.tmps.size = N) (hB : mixB ops h ds N = true)
    (C : Array Bool → World → Prop) (F : Nat → Value → World → Prop) (hC : C (Array.replicate ops.size false) w.drew)
    (hstep : ∀ (i : Nat) (o : Oper), ops[i]? = some o → i < h → ∀ (l : Array Bool) a' w', l.size = ops.size → l.getD i false = false → Closed ops l → (∀ k, edgeB ops i k = true → l.getD k false = true) → C l w' → (∀ d ∈ looks ops o, (d ∈ ds → F d (a'.tmps.getD d undef) w') ∧ (d ∉ ds → a'.tmps.getD d undef = a.tmps.getD d undef)) →
      if Region.wanted o (yielded ops a'.tmps) = true then o.wp P a' w' (fun a'' w'' => ∃ v, a'' = a'.put o.dst v ∧ C (l.setIfInBounds i true) w'' ∧ (∀ d v, o.dst ≠ some d → F d v w' → F d v w'') ∧ ∀ d, o.dst = some d → F d v w'') Q else C (l.setIfInBounds i true) w' ∧ ∀ d, o.dst = some d → F d undef w')
    (hlast : ∀ (l : Array Bool) (v : Nat → Value) w', (∀ j, j < h → l.getD j false = true) → C l w' → (∀ d ∈ ds, F d (v d) w') → wpList P ops Q (ops.toList.drop h) (fill a v ds) w') : (Code.region id ops true).wp P Q a w := by
  unfold mixB at hB
  simp only [Bool.and_eq_true, decide_eq_true_eq, beq_iff_eq, List.all_eq_true, List.mem_range] at hB
  obtain ⟨⟨⟨hle, hds⟩, hdN⟩, hall⟩ := hB
  have hds' : ∀ d, d ∈ ds ↔ ∃ j, j < h ∧ dstOf ops j = some d := fun d => by
    rw [hds]; simp [List.mem_filterMap]
  have hafter : ∀ (i : Nat) (o : Oper), ops[i]? = some o → ∀ e ∈ o.after, Region.binds .any e = true → e.on < i := fun i o ho e he hb => by
    have hi : i < ops.size := (Array.getElem?_eq_some_iff.1 ho).1
    have := hall i hi
    rw [ho] at this
    simp only [Bool.and_eq_true] at this
    simpa [hb] using (Array.all_eq_true'.1 this.1) e he
  have hhead : ∀ (i : Nat) (o : Oper), ops[i]? = some o → i < h → (∀ d, o.dst = some d → ∀ j, j < h → j ≠ i → dstOf ops j ≠ o.dst) ∧ (∀ d ∈ looks ops o, d ∈ ds → ∃ e ∈ o.after, Region.binds .any e = true ∧ e.on < h ∧ dstOf ops e.on = some d) := fun i o ho hlt => by
    have hi : i < ops.size := (Array.getElem?_eq_some_iff.1 ho).1
    have := hall i hi
    rw [ho] at this
    simp only [Bool.and_eq_true, if_pos hlt, List.all_eq_true, List.mem_range, Bool.or_eq_true, beq_iff_eq, bne_iff_ne, Bool.not_eq_true'] at this
    obtain ⟨_, h2, h3⟩ := this
    refine ⟨fun d0 hd0 j hj hne => ?_, fun d hd hdm => ?_⟩
    · rcases h2 with h2 | h2
      · rw [hd0] at h2; simp at h2
      rcases h2 j hj with h | h
      · exact absurd h.symm hne
      · exact h
    · rcases h3 d hd with h | h
      · rw [← Bool.not_eq_true] at h; exact absurd (by simpa using hdm) h
      · obtain ⟨e, he, hh⟩ := Array.any_eq_true'.1 h
        simp only [Bool.and_eq_true, beq_iff_eq, decide_eq_true_eq] at hh
        exact ⟨e, he, hh.1.1, hh.1.2, hh.2⟩
  have htail : ∀ (i : Nat) (o : Oper), ops[i]? = some o → ¬ i < h → ∀ l : Array Bool, Closed ops l → i ∈ Region.ready .any ops l → ∀ j, j < i → l.getD j false = true := fun i o ho hlt l hcl hrd j hj => by
    have hi : i < ops.size := (Array.getElem?_eq_some_iff.1 ho).1
    have := hall i hi
    rw [ho] at this
    simp only [Bool.and_eq_true, if_neg hlt, List.all_eq_true, List.mem_range] at this
    have hm : j ∈ ancs ops i [i] := by simpa using this.2 j hj
    rcases ancs_listed hcl (edgeB_ready hrd) i [i] (fun m hm => .inl (by simpa using hm)) j hm with e | hl
    · omega
    · exact hl
  have hset : ∀ (l : Array Bool) (i j : Nat), i ≠ j → (l.setIfInBounds i true).getD j false = l.getD j false := fun l i j h => by
    simp [Array.getD_eq_getD_getElem?, Array.getElem?_setIfInBounds_ne h]
  have hset1 : ∀ (l : Array Bool) (i : Nat), i < l.size → (l.setIfInBounds i true).getD i false = true := fun l i h => by
    simp [Array.getD_eq_getD_getElem?, h]
  have hft : ∀ (l : Array Bool) (i : Nat), l.getD i true = false → l.getD i false = false := fun l i h => by
    by_cases hi : i < l.size
    · simpa [Array.getD_eq_getD_getElem?, hi] using h
    · simp [Array.getD_eq_getD_getElem?, hi] at h
  have hdone : ∀ l : Array Bool, l.size = ops.size → Region.ready .any ops l = [] → ∀ i, i < ops.size → l.getD i false = true := fun l hl hr i => by
    induction i using Nat.strongRecOn with
    | _ i ih =>
      intro hi
      cases hq : l.getD i false with
      | true => rfl
      | false =>
        exfalso
        obtain ⟨o, ho⟩ : ∃ o, ops[i]? = some o := ⟨_, Array.getElem?_eq_getElem hi⟩
        have hq' : l.getD i true = false := by
          rw [Array.getD_eq_getD_getElem?, Array.getElem?_eq_getElem (by omega)] at hq ⊢; exact hq
        have hm : i ∈ Region.ready .any ops l := by
          simp only [Region.ready, List.mem_filter, List.mem_range, Bool.and_eq_true, Bool.not_eq_true']
          refine ⟨hi, hq', ?_⟩
          rw [ho]
          simp only [Option.map_some, Option.getD_some]
          refine Array.all_eq_true'.2 fun e he => ?_
          cases hb : Region.binds .any e with
          | false => simp
          | true =>
            have := hafter i o ho e he hb
            simp [ih e.on this (by omega)]
        rw [hr] at hm; cases hm
  let FrA : Array Bool → Act → World → Prop := fun l a' w' => C l w' ∧ a'.tmps.size = a.tmps.size ∧ a'.defers = a.defers ∧ (∀ d, (∀ j, j < h → l.getD j false = true → dstOf ops j ≠ some d) → a'.tmps.getD d undef = a.tmps.getD d undef) ∧
    (∀ j, j < h → l.getD j false = true → ∀ d, dstOf ops j = some d → F d (a'.tmps.getD d undef) w')
  have hfull : ∀ l a' w', FrA l a' w' → (∀ j, j < h → l.getD j false = true) → wpList P ops Q (ops.toList.drop h) a' w' := fun l a' w' hA hl => by
    obtain ⟨f1, f2, f3, f4, f5⟩ := hA
    have ea : a' = fill a (fun d => a'.tmps.getD d undef) ds := by
      refine act_ext (by rw [fill_size, f2]) (by rw [fill_defers, f3]) fun d => ?_
      rw [fill_get _ _ ds a (fun d hd => by rw [hN]; simpa using hdN d hd)]
      by_cases hd : d ∈ ds
      · rw [if_pos hd]
      · rw [if_neg hd]
        exact f4 d fun j hj _ he => hd ((hds' d).2 ⟨j, hj, he⟩)
    have := hlast l (fun d => a'.tmps.getD d undef) w' hl f1 fun d hd => by
      obtain ⟨j, hj, he⟩ := (hds' d).1 hd
      exact f5 j hj (hl j hj) d he
    rw [← ea] at this
    exact this
  let I : Array Bool → Act → World → Prop := fun l a' w' => l.size = ops.size ∧ (((∀ t, h ≤ t → l.getD t false = false) ∧ FrA l a' w') ∨ (∃ k, h < k ∧ k ≤ ops.size ∧ (∀ t, t < k → l.getD t false = true) ∧ (∀ t, k ≤ t → l.getD t false = false) ∧ wpList P ops Q (ops.toList.drop k) a' w'))
  have hseq : ∀ (k : Nat) (l : Array Bool) (a' : Act) (w' : World), l.size = ops.size → h ≤ k → k < ops.size → (∀ t, t < k → l.getD t false = true) → (∀ t, k ≤ t → l.getD t false = false) → wpList P ops Q (ops.toList.drop k) a' w' → wpOp P ops Q k (fun a'' w'' => I (l.setIfInBounds k true) a'' w'') a' w' := fun k l a' w' hl hk1 hk2 g1 g2 hw => by
    obtain ⟨o, ho⟩ : ∃ o, ops[k]? = some o := ⟨_, Array.getElem?_eq_getElem hk2⟩
    have ed : ops.toList.drop k = o :: ops.toList.drop (k + 1) := by
      rw [List.drop_eq_getElem_cons (by simpa using hk2)]
      congr 1
      have := (Array.getElem?_eq_some_iff.1 ho).2
      simpa using this
    rw [ed] at hw
    have hnext : ∀ a'' w'', wpList P ops Q (ops.toList.drop (k + 1)) a'' w'' → I (l.setIfInBounds k true) a'' w'' := fun a'' w'' hh =>
      ⟨by simpa using hl, .inr ⟨k + 1, by omega, by omega, fun t ht => by
        by_cases htk : t = k
        · subst htk; exact hset1 _ _ (by omega)
        · rw [hset _ _ _ (by omega)]; exact g1 t (by omega), fun t ht => by rw [hset _ _ _ (by omega)]; exact g2 t (by omega), hh⟩⟩
    unfold wpOp
    rw [ho]
    simp only []
    unfold wpList at hw
    split
    · rename_i hwn
      rw [if_pos hwn] at hw
      rcases hw with hw | hw
      · exact .inl (Oper.wp_mono hnext hw)
      · exact .inr hw
    · rename_i hwn
      rw [if_neg hwn] at hw
      exact hnext _ _ hw
  refine wp_region_any hm (wpAny_inv (fun l a' w' => I l a' w' ∧ Closed ops l) (fun l a' w' h => h.1.1) ?_ ?_ ops.size _ a w.drew ?_ ?_)
  · intro l a' w' hIc i hi
    obtain ⟨hI, hcl⟩ := hIc
    refine wpOp_mono (fun a'' w'' hh => ⟨hh, hcl.push (edgeB_ready hi)⟩) ?_
    obtain ⟨i1, i2⟩ := hI
    obtain ⟨r1, r2, r3⟩ := ready_facts hi
    obtain ⟨o, ho⟩ : ∃ o, ops[i]? = some o := ⟨_, Array.getElem?_eq_getElem r1⟩
    rcases i2 with ⟨n1, hA⟩ | ⟨k, k1, k2, k3, k4, k5⟩
    · by_cases hlt : i < h
      · obtain ⟨f1, f2, f3, f4, f5⟩ := hA
        obtain ⟨hdist, hlk⟩ := hhead i o ho hlt
        have hs := hstep i o ho hlt l a' w' i1 (hft _ _ r2) hcl (edgeB_ready hi) f1 fun d hd => ⟨fun hdm => by
            obtain ⟨e, he, hb, heh, hed⟩ := hlk d hd hdm
            exact f5 e.on heh (r3 o ho e he hb) d hed, fun hdm => f4 d fun j hj _ he => hdm ((hds' d).2 ⟨j, hj, he⟩)⟩
        have hput : ∀ v w'', C (l.setIfInBounds i true) w'' → (∀ d v, o.dst ≠ some d → F d v w' → F d v w'') → (∀ d, o.dst = some d → F d v w'') → I (l.setIfInBounds i true) (a'.put o.dst v) w'' := fun v w'' c1 c2 c3 => by
          cases hdi : o.dst with
          | none =>
            have hdsi : dstOf ops i = none := by unfold dstOf; rw [ho]; exact hdi
            refine ⟨by simpa using i1, .inl ⟨fun t ht => by rw [hset _ _ _ (by omega)]; exact n1 t ht, c1, f2, f3, fun d hd => ?_, fun j hj hjl d hjd => ?_⟩⟩
            · refine f4 d fun j hj hjl => ?_
              by_cases hij : i = j
              · subst hij; rw [hft _ _ r2] at hjl; cases hjl
              · exact hd j hj (by rw [hset _ _ _ hij]; exact hjl)
            · by_cases hij : i = j
              · subst hij; rw [hdsi] at hjd; cases hjd
              · rw [hset _ _ _ hij] at hjl
                exact c2 _ _ (by rw [hdi]; simp) (f5 j hj hjl d hjd)
          | some di =>
            have hdsi : dstOf ops i = some di := by unfold dstOf; rw [ho]; exact hdi
            have hdiN : di < a.tmps.size := by rw [hN]; simpa using hdN di ((hds' di).2 ⟨i, hlt, hdsi⟩)
            refine ⟨by simpa using i1, .inl ⟨fun t ht => by rw [hset _ _ _ (by omega)]; exact n1 t ht, c1, by simpa [Act.put] using f2, f3, fun d hd => ?_, fun j hj hjl d hjd => ?_⟩⟩
            · have hne : d ≠ di := fun e => hd i hlt (hset1 _ _ (by omega)) (by rw [e]; exact hdsi)
              rw [getD_put hne]
              refine f4 d fun j hj hjl => ?_
              by_cases hij : i = j
              · subst hij; rw [hft _ _ r2] at hjl; cases hjl
              · exact hd j hj (by rw [hset _ _ _ hij]; exact hjl)
            · by_cases hij : i = j
              · subst hij
                rw [hdsi] at hjd; cases hjd
                rw [getD_put_same (by rw [f2]; exact hdiN)]; exact c3 _ hdi
              · have hne : d ≠ di := fun e => hdist di hdi j hj (Ne.symm hij) (by rw [hjd, e, hdi])
                rw [getD_put hne]
                rw [hset _ _ _ hij] at hjl
                exact c2 _ _ (fun e => hne (by rw [hdi] at e; exact (Option.some.inj e).symm)) (f5 j hj hjl d hjd)
        unfold wpOp
        rw [ho]
        simp only []
        by_cases hw : Region.wanted o (yielded ops a'.tmps) = true
        · rw [if_pos hw] at hs ⊢
          refine .inl (Oper.wp_mono (fun a'' w'' hh => ?_) hs)
          obtain ⟨v, rfl, c1, c2, c3⟩ := hh
          exact hput v w'' c1 c2 c3
        · rw [if_neg hw] at hs ⊢
          exact hput undef w' hs.1 (fun _ _ _ h => h) hs.2
      · have hall' : ∀ j, j < i → l.getD j false = true := htail i o ho hlt l hcl hi
        have hih : i = h := by
          by_cases hih : i = h
          · exact hih
          · have := hall' h (by omega)
            rw [n1 h (Nat.le_refl _)] at this; cases this
        subst hih
        exact hseq i l a' w' i1 (Nat.le_refl _) r1 hall' n1 (hfull l a' w' hA hall')
    · have hik : i = k := by
        have h1 : ¬ i < k := fun hlt => by have := k3 i hlt; rw [hft _ _ r2] at this; cases this
        by_cases hik : i = k
        · exact hik
        · have := htail i o ho (by omega) l hcl hi k (by omega)
          rw [k4 k (Nat.le_refl _)] at this; cases this
      subst hik
      exact hseq i l a' w' i1 (by omega) r1 k3 k4 k5
  · intro l a' w' hIc hr
    have hI := hIc.1
    obtain ⟨i1, i2⟩ := hI
    have hd := hdone l i1 hr
    rcases i2 with ⟨n1, hA⟩ | ⟨k, k1, k2, k3, k4, k5⟩
    · have hsz : h = ops.size := by
        by_cases hlt : h < ops.size
        · have := hd h hlt; rw [n1 h (Nat.le_refl _)] at this; cases this
        · omega
      have := hfull l a' w' hA fun j hj => hd j (by omega)
      rw [List.drop_of_length_le (by simp [hsz])] at this
      exact this
    · have hsz : k = ops.size := by
        by_cases hlt : k < ops.size
        · have := hd k hlt; rw [k4 k (Nat.le_refl _)] at this; cases this
        · omega
      rw [List.drop_of_length_le (by simp [hsz])] at k5
      exact k5
  · have hz : ∀ i, (Array.replicate ops.size false).getD i false = false := fun i => by
      by_cases hi : i < ops.size
      · simp [Array.getD_eq_getD_getElem?, hi]
      · simp [Array.getD_eq_getD_getElem?, hi]
    exact ⟨⟨by simp, .inl ⟨fun t _ => hz t, hC, rfl, rfl, fun _ _ => rfl, fun j _ hj => by rw [hz] at hj; cases hj⟩⟩, fun m k hm => by rw [hz] at hm; cases hm⟩
  · exact Nat.le_trans List.countP_le_length (by simp)
/-- the operations one by one, with their numbers -/
def AllI (p : Nat → Oper → Prop) : Nat → List Oper → Prop
  | _, [] => True
  | i, o :: l => p i o ∧ AllI p (i + 1) l
theorem AllI.get {p : Nat → Oper → Prop} : ∀ {l : List Oper} {k : Nat}, AllI p k l → ∀ (i : Nat) (o : Oper), l[i]? = some o → p (k + i) o
  | [], _, _, i, o, h => by simp at h
  | x :: l, k, h, 0, o, ho => by simp at ho; subst ho; exact h.1
  | x :: l, k, h, i + 1, o, ho => by
    have := AllI.get h.2 i o (by simpa using ho)
    rwa [show k + 1 + i = k + (i + 1) by omega] at this
def StepL (P : Program) (Q : Exit → Act → World → Prop) (ops : Array Oper) (ds : List Nat) (a : Act) (C : Array Bool → World → Prop) (F : Nat → Value → World → Prop) (i : Nat) (o : Oper) : Prop :=
  ∀ (l : Array Bool) a' w', l.size = ops.size → l.getD i false = false → Closed ops l → (∀ k, edgeB ops i k = true → l.getD k false = true) → C l w' → (∀ d ∈ looks ops o, (d ∈ ds → F d (a'.tmps.getD d undef) w') ∧ (d ∉ ds → a'.tmps.getD d undef = a.tmps.getD d undef)) →
      if Region.wanted o (yielded ops a'.tmps) = true then o.wp P a' w' (fun a'' w'' => ∃ v, a'' = a'.put o.dst v ∧ C (l.setIfInBounds i true) w'' ∧ (∀ d v, o.dst ≠ some d → F d v w' → F d v w'') ∧ ∀ d, o.dst = some d → F d v w'') Q else C (l.setIfInBounds i true) w' ∧ ∀ d, o.dst = some d → F d undef w'
theorem wp_mixL_lit {P : Program} {l : List Oper} {Q : Exit → Act → World → Prop} {id : Nat} {a : Act} {w : World} (hm : P.follows .mixedOrders = true) (h : Nat) (ds : List Nat) (N : Nat) (hN : a.tmps.size = N) (hB : mixB l.toArray h ds N = true)
    (C : Array Bool → World → Prop) (F : Nat → Value → World → Prop) (hC : C (Array.replicate l.toArray.size false) w.drew)
    (hstep : AllI (StepL P Q l.toArray ds a C F) 0 (l.take h))
    (hlast : ∀ (k : Array Bool) (v : Nat → Value) w', (∀ j, j < h → k.getD j false = true) → C k w' → (∀ d ∈ ds, F d (v d) w') → wpList P l.toArray Q (l.drop h) (fill a v ds) w') : (Code.region id l.toArray true).wp P Q a w :=
  wp_region_mixL hm h ds N hN hB C F hC (fun i o ho hi => by
    have := hstep.get i o (by rw [List.getElem?_take_of_lt hi]; simpa using ho)
    rwa [Nat.zero_add] at this) hlast
/-- an operation that yields a value, and leaves the memory as it is -/
theorem sl_v {P : Program} {Q : Exit → Act → World → Prop} {ops : Array Oper} {C' : World → Prop} {F : Nat → Value → World → Prop} {o : Oper} {a : Act} {w : World} {X : Prop} (d : Nat) (v : Value) (hd : o.dst = some d) (hw : Region.wanted o (yielded ops a.tmps) = true) (hC : C' w) (hF : F d v w) (hr : (execOp a.eval o).run P w = .ok (.value v) w) :
    if Region.wanted o (yielded ops a.tmps) = true then o.wp P a w (fun a'' w'' => ∃ v, a'' = a.put o.dst v ∧ C' w'' ∧ (∀ d v, o.dst ≠ some d → F d v w → F d v w'') ∧ ∀ d, o.dst = some d → F d v w'') Q else X := by
  rw [if_pos hw]
  unfold Oper.wp
  rw [hr]
  exact ⟨v, rfl, hC, fun _ _ _ h => h, fun d' h' => by rw [hd] at h'; cases h'; exact hF⟩
/-- two calls, the second one behind the first one: what stands before, between and behind them -/
def Two (c1 c2 : Nat) (X0 X1 X2 : World → Prop) (l : Array Bool) (W : World) : Prop := if l.getD c1 false = true then (if l.getD c2 false = true then X2 W else X1 W) else X0 W
theorem Two.other {c1 c2 i : Nat} {X0 X1 X2 : World → Prop} {l : Array Bool} {W : World} (h : Two c1 c2 X0 X1 X2 l W) (h1 : i ≠ c1) (h2 : i ≠ c2) : Two c1 c2 X0 X1 X2 (l.setIfInBounds i true) W := by
  unfold Two at h ⊢
  rw [show (l.setIfInBounds i true).getD c1 false = l.getD c1 false from by simp [Array.getD_eq_getD_getElem?, Array.getElem?_setIfInBounds_ne h1], show (l.setIfInBounds i true).getD c2 false = l.getD c2 false from by simp [Array.getD_eq_getD_getElem?, Array.getElem?_setIfInBounds_ne h2]]
  exact h
theorem Two.any {c1 c2 : Nat} {X0 X1 X2 Y : World → Prop} {l : Array Bool} {W : World} (h : Two c1 c2 X0 X1 X2 l W) (h0 : X0 W → Y W) (h1 : X1 W → Y W) (h2 : X2 W → Y W) : Y W := by
  unfold Two at h
  split at h
  · split at h
    · exact h2 h
    · exact h1 h
  · exact h0 h
theorem Two.first {c1 c2 : Nat} {X0 X1 X2 : World → Prop} {l : Array Bool} {W : World} (h : Two c1 c2 X0 X1 X2 l W) (hl : l.getD c1 false = false) : X0 W := by
  unfold Two at h
  rwa [if_neg (by rw [hl]; decide)] at h
theorem Two.did {c1 c2 : Nat} {X0 X1 X2 : World → Prop} {ops : Array Oper} {l : Array Bool} {W : World} (hne : c1 ≠ c2) (hc : Closed ops l) (he : edgeB ops c2 c1 = true) (hl : l.getD c1 false = false) (hs : c1 < l.size) (h : X1 W) : Two c1 c2 X0 X1 X2 (l.setIfInBounds c1 true) W := by
  unfold Two
  rw [if_pos (by simp [Array.getD_eq_getD_getElem?, hs])]
  have : (l.setIfInBounds c1 true).getD c2 false = l.getD c2 false := by simp [Array.getD_eq_getD_getElem?, Array.getElem?_setIfInBounds_ne hne]
  rw [this, if_neg (fun h2 => by have := hc c2 c1 h2 he; rw [hl] at this; cases this)]
  exact h
theorem Two.second {c1 c2 : Nat} {X0 X1 X2 : World → Prop} {l : Array Bool} {W : World} (h : Two c1 c2 X0 X1 X2 l W) (h1 : l.getD c1 false = true) (h2 : l.getD c2 false = false) : X1 W := by
  unfold Two at h
  rwa [if_pos h1, if_neg (by rw [h2]; decide)] at h
theorem Two.both {c1 c2 : Nat} {X0 X1 X2 : World → Prop} {l : Array Bool} {W : World} (hne : c1 ≠ c2) (h1 : l.getD c1 false = true) (hs : c2 < l.size) (h : X2 W) : Two c1 c2 X0 X1 X2 (l.setIfInBounds c2 true) W := by
  unfold Two
  rw [show (l.setIfInBounds c2 true).getD c1 false = l.getD c1 false from by simp [Array.getD_eq_getD_getElem?, Array.getElem?_setIfInBounds_ne (Ne.symm hne)], if_pos h1, if_pos (by simp [Array.getD_eq_getD_getElem?, hs])]
  exact h
theorem Two.last {c1 c2 : Nat} {X0 X1 X2 : World → Prop} {l : Array Bool} {W : World} (h : Two c1 c2 X0 X1 X2 l W) (h1 : l.getD c1 false = true) (h2 : l.getD c2 false = true) : X2 W := by
  unfold Two at h
  rwa [if_pos h1, if_pos h2] at h
end Tl
end Go.Proofs.YtmpgfpmkmgebdaaGreatDoor.W
