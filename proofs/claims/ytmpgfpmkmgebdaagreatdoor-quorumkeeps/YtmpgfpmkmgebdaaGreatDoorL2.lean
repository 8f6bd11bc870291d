/- The document's Read. Printed in part by gen_f8.py. -/
import Derived.Test.YtmpgfpmkmgebdaaGreatDoorFF7
import Derived.Test.YtmpgfpmkmgebdaaGreatDoorL1
namespace Go.Proofs.YtmpgfpmkmgebdaaGreatDoor.F
open Go.RowKit
set_option maxRecDepth 20000 in
theorem refRead_long (s : ByteArray) (h : s.size < 50 ∨ 65536 < s.size) (w : World) :
    Calls Tryz.prog 61 #[.string s] w fun e w' => e = .returned (.tuple #[.agg noF, .int .i64 4]) ∧ Below w.heap.size w w' := by
  have T0 := RtW.start noF w
  go_enter Tryz.func61, Tryz.ntmps61
  by_cases q : s.size < 50
  · have q0 : (s.size : Int) < 50 := by omega
    go_wp2_with fail
    exact ret_frame41 Tryz.results61 rfl rfl rfl T0.hs ⟨rfl, T0.bl⟩
  · have q0 : ¬ (s.size : Int) < 50 := by omega
    have q1 : (65536 : Int) < (s.size : Int) := by omega
    go_wp2_with fail
    exact ret_frame41 Tryz.results61 rfl rfl rfl T0.hs ⟨rfl, T0.bl⟩
def rv (s : ByteArray) (E G : Int) (a b : Nat) (p : ByteArray) : Nat → Value
  | 16 => .string s
  | 17 => .int .i64 E
  | 18 => .string s
  | 19 => .int .i64 G
  | 20 => .agg #[.int .i64 E, .int .i64 G]
  | 21 => .string s
  | 22 => .int .u8 ((a : Nat) : Int)
  | 23 => .int .i64 ((a : Nat) : Int)
  | 24 => .string s
  | 25 => .int .u8 ((b : Nat) : Int)
  | 26 => .int .i64 ((b : Nat) : Int)
  | 27 => .agg #[.int .i64 ((a : Nat) : Int), .int .i64 ((b : Nat) : Int)]
  | 28 => .string s
  | 29 => .string s
  | 30 => .int .i64 (s.size : Int)
  | 31 => .int .i64 ((s.size - 32 : Nat) : Int)
  | 32 => .string p
  | 33 => .agg (frc E G (a : Int) (b : Int) p)
  | _ => undef
def rF (n : Nat) (s : ByteArray) (E G : Int) (a b : Nat) (p : ByteArray) (d : Nat) (v : Value) (W : World) : Prop :=
  match d with
  | 4 => ∃ k, v = .pointer (some ⟨k, 0, none⟩) ∧ Has W k noF 127 ∧ n < k
  | _ => v = rv s E G a b p d
theorem rF_mono (n : Nat) (s : ByteArray) (E G : Int) (a b : Nat) (p : ByteArray) (d : Nat) (v : Value) (w w' : World) (h : rF n s E G a b p d v w) (hb : Below w.heap.size w w') : rF n s E G a b p d v w' := by
  unfold rF at h ⊢
  split
  · obtain ⟨k, h1, h2, h3⟩ := h
    exact ⟨k, h1, h2.below hb h2.lt, h3⟩
  · rename_i hne
    split at h
    · exact absurd rfl (hne)
    · exact h
theorem RtW.put {c : Array Value} {w W : World} {b : Nat} (h : RtW c w W) (hb : w.heap.size < b) (v0 v1 v2 v3 v4 : Value) : RtW c w (((((W.setCell ⟨b, 0, none⟩ v0).setCell ⟨b, 1, none⟩ v1).setCell ⟨b, 2, none⟩ v2).setCell ⟨b, 3, none⟩ v3).setCell ⟨b, 4, none⟩ v4) :=
  ⟨((((h.hs.other _ _ (by show w.heap.size ≠ b; omega)).other _ _ (by show w.heap.size ≠ b; omega)).other _ _ (by show w.heap.size ≠ b; omega)).other _ _ (by show w.heap.size ≠ b; omega)).other _ _ (by show w.heap.size ≠ b; omega), below_put5 h.bl (by omega) _ _ _ _ _⟩
section
variable {ev : Operand → Value} {o : Oper} {w : World} {x y : Operand}
theorem rn_sl9x {A p : ByteArray} {z : Operand} {lo hi : Nat} (ho : o.op = .slice 9 x (some y) (some z) none) (hx : ev x = .string A) (hy : ev y = .int .i64 (lo : Int)) (hz : ev z = .int .i64 (hi : Int)) (h1 : lo ≤ hi) (h2 : hi ≤ A.size) (hp : Hid (A.extract lo hi = p)) : (execOp ev o).run Tryz.prog w = .ok (.value (.string p)) w := by
  have := rn_sl9 (w := w) ho hx hy hz h1 h2
  rw [hp.out] at this
  exact this
end
set_option maxRecDepth 20000 in
set_option maxHeartbeats 1000000 in
theorem refRead_aux (s : ByteArray) (h1 : 50 ≤ s.size) (h2 : s.size ≤ 65536) (E G : Int) (a b : Nat) (p Y : ByteArray) (R : Int) (ha : a < 256) (hb : b < 256)
    (HE : Hid (∀ W, Calls Tryz.prog 83 #[.string s, .int .i64 4] W fun e w' => e = .returned (.int .i64 E) ∧ Below W.heap.size W w')) (HG : Hid (∀ W, Calls Tryz.prog 83 #[.string s, .int .i64 8] W fun e w' => e = .returned (.int .i64 G) ∧ Below W.heap.size W w'))
    (ea : (bs s).getD 12 0 = a) (eb : (bs s).getD 13 0 = b) (hp : Hid (s.extract 18 (s.size - 32) = p))
    (HM : Hid (∀ W, Calls Tryz.prog 84 #[.agg (frc E G a b p)] W fun e w' => e = .returned (.tuple #[.string Y, .int .i64 R]) ∧ Below W.heap.size W w')) (w : World) :
    Calls Tryz.prog 61 #[.string s] w fun e w' => e = .returned (if (R = 0 ∧ Y = s) then .tuple #[.agg (frc E G a b p), .int .i64 0] else .tuple #[.agg noF, .int .i64 4]) ∧ Below w.heap.size w w' := by
  have q0 : ¬ (s.size : Int) < 50 := by omega
  have q1 : ¬ (65536 : Int) < (s.size : Int) := by omega
  have q32 : IntKind.i64.wrap ((s.size : Int) - 32) = ((s.size - 32 : Nat) : Int) := by rw [wrap_i64_of (by omega) (by omega)]; omega
  have T0 := RtW.start noF w
  go_enter Tryz.func61, Tryz.ntmps61
  go_wp2_with fail
  refine Tl.wp_tail_lit (by kernel_rfl) 19 [16, 17, 18, 19, 20, 21, 22, 23, 24, 25, 26, 27, 28, 29, 30, 31, 32, 33, 4] 48 rfl (by kernel_rfl) (RtW noF w) (rF w.heap.size s E G a b p) (rF_mono _ _ _ _ _ _ _) T0.drew
    ⟨fun a' W' hC hF => ?_, fun a' W' hC hF => ?_, fun a' W' hC hF => ?_, fun a' W' hC hF => ?_, fun a' W' hC hF => ?_, fun a' W' hC hF => ?_, fun a' W' hC hF => ?_, fun a' W' hC hF => ?_, fun a' W' hC hF => ?_, fun a' W' hC hF => ?_, fun a' W' hC hF => ?_, fun a' W' hC hF => ?_, fun a' W' hC hF => ?_, fun a' W' hC hF => ?_, fun a' W' hC hF => ?_, fun a' W' hC hF => ?_, fun a' W' hC hF => ?_, fun a' W' hC hF => ?_, fun a' W' hC hF => ?_, trivial⟩ ?_
  · exact Tl.st_v 16 _ rfl rfl hC rfl (rn_move rfl ((hF 0 (by decide +kernel)).2 (by decide)))
  · exact Tl.st_call 17 83 _ rfl (Tl.wanted_none rfl) (rn_call2 rfl rfl ((hF 16 (by decide +kernel)).1 (by decide)) rfl (enter27 _)) ((HE.out W').mono fun e w'' h => ⟨_, h.1, hC.next h.2, h.2, rfl⟩)
  · exact Tl.st_v 18 _ rfl rfl hC rfl (rn_move rfl ((hF 0 (by decide +kernel)).2 (by decide)))
  · exact Tl.st_call 19 83 _ rfl (Tl.wanted_none rfl) (rn_call2 rfl rfl ((hF 18 (by decide +kernel)).1 (by decide)) rfl (enter27 _)) ((HG.out W').mono fun e w'' h => ⟨_, h.1, hC.next h.2, h.2, rfl⟩)
  · exact Tl.st_v 20 _ rfl rfl hC rfl (rn_build24 rfl ((hF 17 (by decide +kernel)).1 (by decide)) ((hF 19 (by decide +kernel)).1 (by decide)))
  · exact Tl.st_v 21 _ rfl rfl hC rfl (rn_move rfl ((hF 0 (by decide +kernel)).2 (by decide)))
  · exact Tl.st_v 22 _ rfl rfl hC rfl (rn_index9 (k := 12) rfl ((hF 21 (by decide +kernel)).1 (by decide)) rfl (by omega) ea)
  · exact Tl.st_v 23 _ rfl rfl hC rfl (rn_c53 rfl ((hF 22 (by decide +kernel)).1 (by decide)) (by omega) (by omega))
  · exact Tl.st_v 24 _ rfl rfl hC rfl (rn_move rfl ((hF 0 (by decide +kernel)).2 (by decide)))
  · exact Tl.st_v 25 _ rfl rfl hC rfl (rn_index9 (k := 13) rfl ((hF 24 (by decide +kernel)).1 (by decide)) rfl (by omega) eb)
  · exact Tl.st_v 26 _ rfl rfl hC rfl (rn_c53 rfl ((hF 25 (by decide +kernel)).1 (by decide)) (by omega) (by omega))
  · exact Tl.st_v 27 _ rfl rfl hC rfl (rn_build26 rfl ((hF 23 (by decide +kernel)).1 (by decide)) ((hF 26 (by decide +kernel)).1 (by decide)))
  · exact Tl.st_v 28 _ rfl rfl hC rfl (rn_move rfl ((hF 0 (by decide +kernel)).2 (by decide)))
  · exact Tl.st_v 29 _ rfl rfl hC rfl (rn_move rfl ((hF 0 (by decide +kernel)).2 (by decide)))
  · exact Tl.st_v 30 _ rfl rfl hC rfl (rn_len9 rfl ((hF 29 (by decide +kernel)).1 (by decide)) )
  · exact Tl.st_v 31 _ rfl rfl hC rfl (rn_subI rfl ((hF 30 (by decide +kernel)).1 (by decide)) rfl q32)
  · exact Tl.st_v 32 _ rfl rfl hC rfl (rn_sl9x (lo := 18) (hi := s.size - 32) rfl ((hF 28 (by decide +kernel)).1 (by decide)) rfl ((hF 31 (by decide +kernel)).1 (by decide)) (by omega) (by omega) hp)
  · exact Tl.st_v 33 _ rfl rfl hC rfl (rn_build41 rfl ((hF 20 (by decide +kernel)).1 (by decide)) ((hF 27 (by decide +kernel)).1 (by decide)) ((hF 32 (by decide +kernel)).1 (by decide)))
  · refine Tl.st_val 4 (.pointer (some ⟨W'.heap.size, 0, none⟩)) rfl (Tl.wanted_none rfl) (rn_alloc41 rfl) (hC.next ((Below.refl _ _).alloc (Nat.le_refl _) _)) ((Below.refl _ _).alloc (Nat.le_refl _) _) ?_
    exact ⟨W'.heap.size, rfl, Has.new _ _ _ _ rfl, hC.hs.lt⟩
  · intro v W' hC hv
    have v33 : v 33 = .agg (frc E G a b p) := hv 33 (by decide)
    obtain ⟨k, v4, hk, hlt⟩ : ∃ k, v 4 = .pointer (some ⟨k, 0, none⟩) ∧ Has W' k noF 127 ∧ w.heap.size < k := hv 4 (by decide)
    obtain ⟨c0, c1, c2, c3, c4⟩ := frc_cells hk
    obtain ⟨f0, f1, f2, f3, f4⟩ := frc_free hk
    simp only [Tl.fill, v33, v4, frc]
    go_wp2_with fail
    refine (HM.out _).mono ?_
    rintro e w2 ⟨rfl, b2⟩
    have R3 := (hC.put hlt _ _ _ _ _).next b2
    have S2 := frc_put hk E G a b p
    have S3 : Has w2 k (frc E G a b p) 127 := S2.below b2 S2.lt
    clear b2 S2 c0 c1 c2 c3 c4 f0 f1 f2 f3 f4 HM hk T0 HE HG hp
    obtain ⟨c0, c1, c2, c3, c4⟩ := frc_cells R3.hs
    obtain ⟨f0, f1, f2, f3, f4⟩ := frc_free R3.hs
    obtain ⟨s0, s1, s2, s3, s4⟩ := frc_cells S3
    by_cases hE : R = 0
    · have qE : (R != 0) = false := by rw [hE]; rfl
      by_cases hY : Y = s
      · have qY : (Y.toList == s.toList) = true := by rw [hY]; simp
        have HZ : Hid (R = 0 ∧ Y = s) := ⟨hE, hY⟩
        clear hE hY
        go_wp2_with fail
        exact ret_frame41 Tryz.results61 rfl rfl rfl (frc_put R3.hs _ _ _ _ _) ⟨by first | rfl | (rw [if_pos HZ.out]; rfl), below_put5 R3.bl (by omega) _ _ _ _ _⟩
      · have qY : (Y.toList == s.toList) = false := str_ne fun e => hY (bs_inj e)
        have HZ : Hid (¬ (R = 0 ∧ Y = s)) := fun h => hY h.2
        clear hE hY
        go_wp2_with fail
        exact ret_frame41 Tryz.results61 rfl rfl rfl (frc_put R3.hs _ _ _ _ _) ⟨by first | rfl | (rw [if_neg HZ.out]; rfl), below_put5 R3.bl (by omega) _ _ _ _ _⟩
    · have qE : (R != 0) = true := by rw [bne_iff_ne]; exact hE
      have HZ : Hid (¬ (R = 0 ∧ Y = s)) := fun h => hE h.1
      clear hE
      go_wp2_with fail
      exact ret_frame41 Tryz.results61 rfl rfl rfl (frc_put R3.hs _ _ _ _ _) ⟨by first | rfl | (rw [if_neg HZ.out]; rfl), below_put5 R3.bl (by omega) _ _ _ _ _⟩
/-- THE DOCUMENT's READ. -/
theorem refRead_any (s : ByteArray) (w : World) :
    Calls Tryz.prog 61 #[.string s] w fun e w' => e = .returned (rdV s) ∧ Below w.heap.size w w' := by
  by_cases h : 50 ≤ s.size ∧ s.size ≤ 65536
  · have := refRead_aux s h.1 h.2 (fN s 4) (fN s 8) _ _ (fP s) _ _ (getD_lt _ 256 (by decide) (bs_lt s) 12) (getD_lt _ 256 (by decide) (bs_lt s) 13) (fun W => at_any s 4 (by omega) (by omega) W) (fun W => at_any s 8 (by omega) (by omega) W) rfl rfl rfl (fun W => refMake_any _ _ _ _ _ W) w
    have HR : rdV s = if (mkE (fN s 4) (fN s 8) (fB s 12) (fB s 13) (fP s) = 0 ∧ mkD (fN s 4) (fN s 8) (fB s 12) (fB s 13) (fP s) = s) then .tuple #[.agg (frc (fN s 4) (fN s 8) (fB s 12) (fB s 13) (fP s)), .int .i64 0] else .tuple #[.agg noF, .int .i64 4] := by
      unfold rdV rdOk
      simp only [h.1, decide_true, Bool.true_and, Bool.and_eq_true, decide_eq_true_eq]
    rw [HR]
    exact this
  · have e : rdV s = .tuple #[.agg noF, .int .i64 4] := by
      unfold rdV
      rw [if_neg]
      exact fun hk => h (rd_size hk)
    rw [e]
    exact refRead_long s (by omega) w
end Go.Proofs.YtmpgfpmkmgebdaaGreatDoor.F
/- QuorumKeeps: whether a fault may strike. -/
namespace Go.Proofs.YtmpgfpmkmgebdaaGreatDoor
open Go.RowKit Go.Maps
open W
set_option linter.unusedVariables false
variable {w0 w w' : World} {b : Nat} {V V' : Wd} {T : Nat → Prop}
theorem sameK_at {l l' : List Kp} (h : sameK l' l) {i : Nat} {x : Kp} (hx : l[i]? = some x) : ∃ y, l'[i]? = some y ∧ y.st = x.st ∧ y.sus = x.sus := by
  unfold sameK at h
  have := congrArg (fun z => z[i]?) h
  simp only [List.getElem?_map, hx, Option.map_some] at this
  cases hy : l'[i]? with
  | none => rw [hy] at this; cases this
  | some y =>
    rw [hy] at this
    simp only [Option.map_some, Option.some.injEq, Prod.mk.injEq] at this
    exact ⟨y, rfl, this.1, this.2⟩
theorem sameK_len {l l' : List Kp} (h : sameK l' l) : l'.length = l.length := by
  unfold sameK at h
  have := congrArg List.length h
  simpa using this
theorem sameK_all {l l' : List Kp} (h : sameK l' l) {P : St → Prop} (hF : ∀ x ∈ l, P x.st) : ∀ x ∈ l', P x.st := fun x hx => by
  obtain ⟨i, hi, rfl⟩ := List.getElem_of_mem hx
  have hi' : i < l.length := by rw [← sameK_len h]; exact hi
  obtain ⟨y, hy, e, _⟩ := sameK_at h (List.getElem?_eq_getElem hi')
  rw [List.getElem?_eq_getElem hi] at hy
  cases hy
  rw [e]
  exact hF _ (List.getElem_mem hi')
/-- what a copy that is struck has is what it would have itself -/
theorem objs_copy {l' : List Kp} (h : sameK l' V.l) (k t n a c : Int) : objsW (strikeW { V with l := l' } k t n a c).2 t = objsW (strikeW V k t n a c).2 t := by
  have hl := sameK_len h
  have e : ∀ (U : Wd), objsW (strikeW U k t n a c).2 t = if 0 ≤ t ∧ t < (U.l.length : Int) then (match U.l[t.toNat]? with | some x => (strikeS x.st k n a c).2.seen | none => []) else [] := fun U => by
    unfold strikeW
    by_cases ht : 0 ≤ t ∧ t < (U.l.length : Int)
    · rw [if_pos ht, if_pos ht]
      obtain ⟨x, hx⟩ : ∃ x, U.l[t.toNat]? = some x := ⟨_, List.getElem?_eq_getElem (by omega)⟩
      rw [hx]
      simp only
      unfold objsW
      simp only [List.length_set]
      rw [if_pos ht, List.getElem?_set_self (by omega)]
    · rw [if_neg ht, if_neg ht]
      unfold objsW
      rw [if_neg ht]
  rw [e, e]
  show (if 0 ≤ t ∧ t < (l'.length : Int) then _ else _) = _
  rw [hl]
  by_cases ht : 0 ≤ t ∧ t < (V.l.length : Int)
  · rw [if_pos ht, if_pos ht]
    obtain ⟨x, hx⟩ : ∃ x, V.l[t.toNat]? = some x := ⟨_, List.getElem?_eq_getElem (by omega)⟩
    obtain ⟨y, hy, e1, _⟩ := sameK_at h hx
    show (match l'[t.toNat]? with | some x => (strikeS x.st k n a c).2.seen | none => []) = _
    rw [hx, hy]
    simp only
    rw [e1]
  · rw [if_neg ht, if_neg ht]
theorem look_mem {M : List Ob} {n d : ByteArray} (h : W.look n M = some d) : (n, d) ∈ M := by
  unfold W.look at h
  cases hf : M.find? fun p => decide (p.1 = n) with
  | none => rw [hf] at h; cases h
  | some p =>
    rw [hf] at h
    simp only [Option.map_some, Option.some.injEq] at h
    have h1 := List.mem_of_find?_eq_some hf
    have h2 := List.find?_some hf
    simp only [decide_eq_true_eq] at h2
    rw [← h, ← h2]
    exact h1
theorem mem_look : ∀ {M : List Ob} {n d : ByteArray}, Rising M → (n, d) ∈ M → W.look n M = some d
  | [], _, _, _, h => by cases h
  | p :: t, n, d, hr, h => by
    unfold Rising at hr
    rw [List.pairwise_cons] at hr
    unfold W.look
    rw [List.find?_cons]
    rcases List.mem_cons.1 h with e | h
    · rw [← e]
      simp
    · have hn : p.1 ≠ n := lt_ne (hr.1 (n, d) h)
      simp only [hn, decide_false]
      exact mem_look hr.2 h
/-- a fault that forges no manifest leaves none that did not stand -/
theorem forge_no {n : Int} {k t m a c : Int} (hS : All Sm V) (h : ∀ p ∈ newO (objsW V t) (objsW (strikeW V k t m a c).2 t), F.rdOk p.2 = true → p.1 ≠ m0 ∧ p.1 ≠ m1) : ∀ x, 0 ≤ t → V.l[t.toNat]? = some x → ∀ b, Stands n (strikeS x.st k m a c).2 b → Stands n x.st b := by
  intro x ht hx b hb
  have htl : t < (V.l.length : Int) := by have := (List.getElem?_eq_some_iff.1 hx).1; omega
  have e4 : objsW V t = x.st.seen := by
    unfold objsW
    rw [if_pos ⟨ht, htl⟩, hx]
  have e5 : objsW (strikeW V k t m a c).2 t = (strikeS x.st k m a c).2.seen := by
    unfold strikeW
    rw [if_pos ⟨ht, htl⟩, hx]
    simp only
    unfold objsW
    simp only [List.length_set]
    rw [if_pos ⟨ht, htl⟩, List.getElem?_set_self (by omega)]
  rw [e4, e5] at h
  have one : ∀ j, j ≤ 1 → sl n (strikeS x.st k m a c).2 j = ⟨true, b⟩ → sl n x.st j = ⟨true, b⟩ := fun j hj hs => by
    unfold sl at hs
    cases hl : W.look (mn j) (strikeS x.st k m a c).2.seen with
    | none => rw [hl] at hs; cases hs
    | some d =>
      rw [hl] at hs
      simp only at hs
      have hmem := look_mem hl
      have hok : F.rdOk d = true := lookd_sd (n := n) (by rw [hs])
      have hin : inB (mn j, d) x.st.seen = true := by
        cases hi : inB (mn j, d) x.st.seen with
        | true => rfl
        | false =>
          have := h (mn j, d) (by unfold newO; exact List.mem_filter.2 ⟨hmem, by rw [hi]; rfl⟩) hok
          unfold mn at this
          by_cases hj0 : j = 0
          · rw [if_pos hj0] at this; exact absurd rfl this.1
          · rw [if_neg hj0] at this; exact absurd rfl this.2
      have hold : (mn j, d) ∈ x.st.seen := by
        unfold inB at hin
        obtain ⟨r, hr, e⟩ := List.any_eq_true.1 hin
        simp only [decide_eq_true_eq, Prod.mk.injEq] at e
        rw [← e.1, ← e.2]
        exact hr
      unfold sl
      rw [mem_look (hS x (List.mem_of_getElem? hx)).rw.rise hold]
      exact hs
  rcases hb with hb | hb
  · exact .inl (one 0 (by decide) hb)
  · exact .inr (one 1 (by decide) hb)
theorem sus_count (l : List Kp) : ∀ k, k ≤ l.length → (susL l k).length = (l.take k).countP fun x => x.sus
  | 0, _ => by simp [susL]
  | k + 1, hk => by
    have ih := sus_count l k (by omega)
    obtain ⟨x, hx⟩ : ∃ x, l[k]? = some x := ⟨_, List.getElem?_eq_getElem (by omega)⟩
    unfold susL
    rw [List.length_append, ih, List.take_add_one, hx, List.countP_append]
    simp only [Option.toList_some, List.countP_cons, List.countP_nil]
    cases x.sus <;> simp
theorem sus_mem (l : List Kp) : ∀ k, ∀ j ∈ susL l k, ∃ x, l[j]? = some x ∧ x.sus = true
  | 0, j, h => by cases h
  | k + 1, j, h => by
    unfold susL at h
    rcases List.mem_append.1 h with h | h
    · exact sus_mem l k j h
    · split at h
      · rename_i x hx
        split at h
        · rename_i hs
          rw [List.mem_singleton] at h
          subst h
          exact ⟨x, hx, hs⟩
        · cases h
      · cases h
theorem frd_form (s : ByteArray) : ∃ (a0 a1 a2 a3 z : Int) (a4 : ByteArray), F.rdV s = .tuple #[.agg #[.int .i64 a0, .int .i64 a1, .int .i64 a2, .int .i64 a3, .string a4], .int .i64 z] ∧ ((z = 0 ∧ F.rdOk s = true) ∨ (z = 4 ∧ F.rdOk s = false)) := by
  unfold F.rdV
  cases h : F.rdOk s with
  | true => exact ⟨_, _, _, _, _, _, rfl, .inl ⟨rfl, rfl⟩⟩
  | false => exact ⟨_, _, _, _, _, _, rfl, .inr ⟨rfl, rfl⟩⟩
set_option maxHeartbeats 8000000 in
set_option maxRecDepth 20000 in
theorem forged12_any {v4 v5 : Value} {O4 O5 : List Ob} (h4 : RdO w v4 O4) (h5 : RdO w v5 O5) (hn4 : O4.length ≤ 1000000) (hn5 : O5.length ≤ 1000000) (hsz : ∀ p ∈ O5, p.2.size ≤ 1000000) :
    Calls Tryz.prog 31 #[v4, v5] w fun e w' => ∃ f, e = .returned (.bool f) ∧ (f = false → ∀ p ∈ newO O4 O5, F.rdOk p.2 = true → p.1 ≠ m0 ∧ p.1 ≠ m1) ∧ Below w.heap.size w w' := by
  have HN := refNew_any h4 h5 hn4 hn5
  have HFG : Hid (∀ W, Below w.heap.size w W → Calls Tryz.prog 62 #[v4, v5] W fun e w' => e = .returned (.bool (forgedB O4 O5)) ∧ Below W.heap.size W w') := hid fun W hW => forged_any (h4.below hW) (h5.below hW) hn4 hn5 hsz
  obtain ⟨A4, e4, rfl, _⟩ := h4
  obtain ⟨A5, e5, rfl, _⟩ := h5
  have HLN : Hid ((newO O4 O5).length ≤ 1000000) := hid (Nat.le_trans (newO_len _ _) hn5)
  clear hsz
  generalize newO O4 O5 = L at *
  generalize forgedB O4 O5 = fB at *
  generalize O4.length = n4 at *
  generalize O5.length = n5 at *
  go_enter Tryz.func31, Tryz.ntmps31
  go_wp2_with fail
  refine HN.mono ?_
  rintro _ w1 ⟨v, rfl, hr, hb⟩
  obtain ⟨A, c, rfl, hc⟩ := RdO.of hr
  have HC := hid hc
  have HB := hid hb
  obtain ⟨m, hm⟩ : ∃ m, m = L.length := ⟨_, rfl⟩
  have HM := hid hm
  have hml : m ≤ 1000000 := by rw [hm]; exact HLN.out
  rw [← hm]
  clear hr hc hb hm HLN HN
  go_wp2_with fail
  go_loopg [6, 7, 8] m (fun gk s6 s7 s8 wx => ∃ k : Nat, k + gk = m ∧ s6 = .int .i64 (k : Int) ∧ Hid (Below w1.heap.size w1 wx) ∧ Hid (∀ p ∈ L.take k, F.rdOk p.2 = true → p.1 ≠ m0 ∧ p.1 ≠ m1))
  case atStart => exact ⟨0, by omega, rfl, hid (Below.refl _ _), hid (fun p hp => by simp at hp)⟩
  case round =>
    obtain ⟨k, hk, rfl, HBX, HNO⟩ := hrel
    cases gk with
    | zero =>
      have q1 : ¬ ((k : Int) < (m : Int)) := by omega
      have HE : Hid (∀ p ∈ L, F.rdOk p.2 = true → p.1 ≠ m0 ∧ p.1 ≠ m1) := hid (by
        have := HNO.out
        rw [List.take_of_length_le (by have := HM.out; omega)] at this
        exact this)
      have HBW := hid (HB.out.trans (HBX.out.mono HB.out.size))
      have HFC := HFG.out _ HBW.out
      clear HNO
      go_wp2_with fail
      refine HFC.mono ?_
      clear HFC
      rintro _ w6 ⟨rfl, hb6⟩
      have HB6 := hid (HBW.out.trans (hb6.mono HBW.out.size))
      clear hb6
      go_wp2_with fail
      go_ret
      exact ⟨_, rfl, fun _ => HE.out, HB6.out⟩
    | succ g1 =>
      have q1 : (k : Int) < (m : Int) := by omega
      have wk : IntKind.i64.wrap ((k : Int) + 1) = ((k + 1 : Nat) : Int) := wrapN (b := 1) (by omega)
      obtain ⟨p, hp⟩ : ∃ p, L[k]? = some p := ⟨_, List.getElem?_eq_getElem (by have := HM.out; omega)⟩
      obtain ⟨g, rfl, hg, hx0, hx1⟩ := HC.out k p hp
      have d1 : wr.cell? ⟨g, k * 2 + 1, none⟩ = some (.string p.2) := by rw [HBX.out.cell (p := ⟨g, k * 2 + 1, none⟩) hg]; exact hx1
      have HD0 : Hid (∀ W, Below w1.heap.size w1 W → W.cell? ⟨g, k * 2, none⟩ = some (.string p.1)) := hid fun W hW => by rw [hW.cell (p := ⟨g, k * 2, none⟩) hg]; exact hx0
      have HTK : Hid ((F.rdOk p.2 = true → p.1 ≠ m0 ∧ p.1 ≠ m1) → ∀ q ∈ L.take (k + 1), F.rdOk q.2 = true → q.1 ≠ m0 ∧ q.1 ≠ m1) := hid (fun h q hq => by
        rw [List.take_add_one, hp] at hq
        rcases List.mem_append.1 hq with hq | hq
        · exact HNO.out q hq
        · simp at hq
          subst hq
          exact h)
      have HRD := F.refRead_any p.2 wr
      obtain ⟨a0, a1, a2, a3, z, a4, hrd, hz⟩ := frd_form p.2
      have HZ := hid hz
      rw [hrd] at HRD
      clear hp hx0 hx1 hrd hz HNO
      go_wp2_with fail
      refine HRD.mono ?_
      clear HRD d1
      rintro _ w6 ⟨rfl, hb6⟩
      have HB6 := hid (HBX.out.trans (hb6.mono HBX.out.size))
      have HB7 := hid (HB6.out.trans ((boxed w6 (.cells #[.int .i64 a0, .int .i64 a1, .int .i64 a2, .int .i64 a3, .string a4] 127)).mono HB6.out.size))
      have d0 := HD0.out _ HB7.out
      clear hb6 HB6
      rcases HZ.out with ⟨rfl, hr⟩ | ⟨rfl, hr⟩
      · clear HZ
        have q0 : (p.1.toList == [109, 48]) = decide (p.1 = m0) := by have := str_eq p.1 m0; rw [Lib.toList_data m0] at this; exact this
        have q2 : (p.1.toList == [109, 49]) = decide (p.1 = m1) := by have := str_eq p.1 m1; rw [Lib.toList_data m1] at this; exact this
        by_cases c0 : p.1 = m0
        · rw [decide_eq_true c0] at q0
          clear c0 q2 hr
          go_wp2_with fail
          go_ret
          exact ⟨_, rfl, fun h => Bool.noConfusion h, HB.out.trans (HB7.out.mono HB.out.size)⟩
        · rw [decide_eq_false c0] at q0
          by_cases c1 : p.1 = m1
          · rw [decide_eq_true c1] at q2
            clear c0 c1 hr
            go_wp2_with fail
            go_ret
            exact ⟨_, rfl, fun h => Bool.noConfusion h, HB.out.trans (HB7.out.mono HB.out.size)⟩
          · rw [decide_eq_false c1] at q2
            have HE := hid (HTK.out fun _ => ⟨c0, c1⟩)
            clear c0 c1 hr
            go_wp2_with fail
            go_roundg g1
            case measure => omega
            case rel => exact ⟨k + 1, by omega, by first | rfl | simp, HB7, HE⟩
      · have HE := hid (HTK.out fun h => by rw [hr] at h; cases h)
        clear hr HZ
        go_wp2_with fail
        go_roundg g1
        case measure => omega
        case rel => exact ⟨k + 1, by omega, by first | rfl | simp, HB7, HE⟩
end Go.Proofs.YtmpgfpmkmgebdaaGreatDoor
