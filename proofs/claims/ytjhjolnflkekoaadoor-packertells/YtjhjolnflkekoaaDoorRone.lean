/- The contract of the document's one: the pack of some chunks. -/
import Derived.Test.YtjhjolnflkekoaaDoorShut
import Derived.Test.YtjhjolnflkekoaaDoorRdg
namespace Go.Proofs.YtjhjolnflkekoaaDoor
open Go.RowKit Go.Maps
open Pk
set_option linter.unusedVariables false
/-- append, with the old row still there -/
theorem run_append_keep {P : Program} (w : World) (base : Nat) (t ty e : TypeId) (i : TypeInfo) (z : Value) (size bytes : Nat) (ht : P.underlying t = some (.slice e)) (hi : P.info? e = some i) (hz : i.zero = some z)
    (hsize : i.size = size) (hby : i.bytes = bytes) (hzs : z.cells.size = size) (hsz : 0 < size)
    (v : Value) (n : Nat) (xs : List Value) (hown : w.ownsRow base e size v n xs)
    (a : Addr) (m c : Nat) (news : List Value) (hl : news.length = m * size) (hnews : ∀ j u, news[j]? = some u → w.cell? (a.add j) = some u) (h1 : ∀ u ∈ news, u.oneCell' = true)
    (h63 : n + m ≤ maxLen) (hbytes : (n + m) * bytes ≤ 140737488355328) (hbase : base ≤ w.heap.size) :
    ∃ v' w', (Builtin.append_ #[t, t] ty #[v, .slice (some a) m c]).run P w = .ok v' w' ∧ w'.ownsRow base e size v' (n + m) (xs ++ news) ∧ w.grownBy w' v.ownBlock ∧ w'.ownsRow base e size v n xs := by
  obtain ⟨v', w', hr, h2, h3, _⟩ := run_append_own (P := P) w base t ty e i z size bytes ht hi hz hsize hby hzs hsz v n xs hown a m c news hl hnews h1 h63 hbytes hbase
  refine ⟨v', w', hr, h2, h3, hown.1, ?_⟩
  rcases hown.2 with ⟨h, h0⟩ | ⟨g, cap, cur, rfl, hbg, hg, hnc, hcm, hcs, htake⟩
  · exact .inl ⟨h, h0⟩
  · subst hsize
    by_cases hroom : n + m ≤ cap
    · have hfit : n * i.size + news.length ≤ cur.size := by rw [hl, hcs, ← Nat.add_mul]; exact Nat.mul_le_mul_right _ hroom
      have hr2 := run_append_room (P := P) w t ty e i ht hi g n cap cur hg a m c news hl hnews h1 hroom hfit
      rw [hr2] at hr
      have e1 := hr
      injection e1 with _ e2
      refine .inr ⟨g, cap, _, rfl, hbg, by rw [← e2]; exact setRow_heap w g cur _ e _ hg, hnc, hcm, ?_, ?_⟩
      · simp only [List.size_toArray, List.length_append, List.length_take, List.length_drop, Array.length_toList]
        omega
      · rw [htake]
        have hx : xs.length = n * i.size := hown.1
        rw [List.append_assoc, ← hx]
        exact List.take_left
    · subst hby
      have holds : ∀ j u, xs[j]? = some u → w.cell? ((⟨g, 0, none⟩ : Addr).add j) = some u := hown.cells (g := g) rfl
      have hsmall : n + m ≤ 9223372036854775807 := by simp only [maxLen] at h63; omega
      have hr2 := run_append_grow (P := P) w t ty e i z ht hi hz ⟨g, 0, none⟩ n cap xs hown.1 holds a m c news hl hnews (by omega) (by omega) (growslice_fits (by omega) hbytes)
      rw [hr2] at hr
      have e1 := hr
      injection e1 with _ e2
      refine .inr ⟨g, cap, cur, rfl, hbg, ?_, hnc, hcm, hcs, htake⟩
      rw [← e2]
      exact (heap_alloc_old w.drew _ (Array.getElem?_eq_some_iff.1 hg).1).trans hg
/-- what stands while a pack is made: its four cells, its two rows -/
structure RC (w1 : World) (lo hs q : Nat) (cs : Array Value) (vA vB : Value) (nA nB : Nat) (xa xb : List Value) (W : World) : Prop where
  bel : Below lo w1 W
  hq : Has W q cs 34
  ra : W.ownsRow lo 9 1 vA nA xa
  rb : W.ownsRow lo 42 3 vB nB xb
  hsW : hs ≤ W.heap.size
  lo1 : lo ≤ hs
section
variable {w1 : World} {lo hs q : Nat} {cs : Array Value} {vA vB : Value} {nA nB : Nat} {xa xb : List Value} {W W' : World}
theorem RC.below (h : RC w1 lo hs q cs vA vB nA nB xa xb W) (hb : Below W.heap.size W W') : RC w1 lo hs q cs vA vB nA nB xa xb W' :=
  ⟨h.bel.trans (hb.mono (Nat.le_trans h.lo1 h.hsW)), h.hq.below hb h.hq.lt, own_below h.ra hb (Nat.le_refl _), own_below h.rb hb (Nat.le_refl _), Nat.le_trans h.hsW hb.size, h.lo1⟩
theorem own_own {e e' : TypeId} {m m' n n' : Nat} {v v' : Value} {xs xs' : List Value} {lo' : Nat} (h : W.ownsRow lo e m v n xs) (h' : W.ownsRow lo' e' m' v' n' xs') (he : e ≠ e') : v.ownBlock = none ∨ v.ownBlock ≠ v'.ownBlock := by
  rcases h.2 with ⟨rfl, _⟩ | ⟨g, cap, cur, rfl, _, hh, _⟩
  · exact .inl rfl
  · right
    have : Has W g cur e := hh
    exact fun e1 => own_has h' this he e1.symm
theorem RC.growA (h : RC w1 lo hs q cs vA vB nA nB xa xb W) (hg : W.grownBy W' vA.ownBlock) (hk : W'.ownsRow lo 9 1 vA nA xa) : RC w1 lo hs q cs vA vB nA nB xa xb W' :=
  ⟨h.bel.grown hg (Nat.le_trans h.lo1 h.hsW) (fun j hj => (h.ra.lt j hj).1), h.hq.grown hg (own_has h.ra h.hq (by decide)), hk, h.rb.kept hg (own_own h.rb h.ra (by decide)), Nat.le_trans h.hsW hg.size, h.lo1⟩
theorem RC.growB (h : RC w1 lo hs q cs vA vB nA nB xa xb W) (hg : W.grownBy W' vB.ownBlock) (hk : W'.ownsRow lo 42 3 vB nB xb) : RC w1 lo hs q cs vA vB nA nB xa xb W' :=
  ⟨h.bel.grown hg (Nat.le_trans h.lo1 h.hsW) (fun j hj => (h.rb.lt j hj).1), h.hq.grown hg (own_has h.rb h.hq (by decide)), h.ra.kept hg (own_own h.ra h.rb (by decide)), hk, Nat.le_trans h.hsW hg.size, h.lo1⟩
theorem RC.setA (h : RC w1 lo hs q cs vA vB nA nB xa xb W) (hlo : lo ≤ q) {v : Value} {n : Nat} {x : List Value} (hr : W.ownsRow lo 9 1 v n x) : RC w1 lo hs q (cs.setIfInBounds 2 v) v vB n nB x xb (W.setCell ⟨q, 2, none⟩ v) :=
  ⟨h.bel.setCell (p := ⟨q, 2, none⟩) hlo v, h.hq.set 2 v, own_set (o := 2) hr h.hq (by decide) v, own_set (o := 2) h.rb h.hq (by decide) v, by simp only [World.setCell, Array.size_modify]; exact h.hsW, h.lo1⟩
theorem RC.setB (h : RC w1 lo hs q cs vA vB nA nB xa xb W) (hlo : lo ≤ q) {v : Value} {n : Nat} {x : List Value} (hr : W.ownsRow lo 42 3 v n x) : RC w1 lo hs q (cs.setIfInBounds 3 v) vA v nA n xa x (W.setCell ⟨q, 3, none⟩ v) :=
  ⟨h.bel.setCell (p := ⟨q, 3, none⟩) hlo v, h.hq.set 3 v, own_set (o := 3) h.ra h.hq (by decide) v, own_set (o := 3) hr h.hq (by decide) v, by simp only [World.setCell, Array.size_modify]; exact h.hsW, h.lo1⟩
theorem RC.at (h : RC w1 lo hs q cs vA vB nA nB xa xb W) {h2 : Nat} (hl : lo ≤ h2) (hw : h2 ≤ W.heap.size) : RC w1 lo h2 q cs vA vB nA nB xa xb W := ⟨h.bel, h.hq, h.ra, h.rb, hw, hl⟩
end
section
variable {ev : Operand → Value} {o : Oper} {w : World} {x y z : Operand}
theorem rn_app22 {v v' : Value} {w' : World} {u : Value} {t : TypeId} (ho : o.op = .call { callee := .builtin .append, args := #[x, y], argTypes := #[22, 22] }) (hx : ev x = v) (hy : ev y = u) (ht : o.type = t) (hr : (Builtin.append_ #[22, 22] t #[v, u]).run Tryd.prog w = .ok v' w') : (execOp ev o).run Tryd.prog w = .ok (.value v') w' := by
  subst ht
  simp [execOp, ho, hx, hy, resolve, invoke, builtin, hr, Result.andThen]
theorem rn_app32 {v v' : Value} {w' : World} {u : Value} {t : TypeId} (ho : o.op = .call { callee := .builtin .append, args := #[x, y], argTypes := #[32, 32] }) (hx : ev x = v) (hy : ev y = u) (ht : o.type = t) (hr : (Builtin.append_ #[32, 32] t #[v, u]).run Tryd.prog w = .ok v' w') : (execOp ev o).run Tryd.prog w = .ok (.value v') w' := by
  subst ht
  simp [execOp, ho, hx, hy, resolve, invoke, builtin, hr, Result.andThen]
theorem rn_bd42 {d : ByteArray} {a n : Int} (ho : o.op = .build 42 #[(0, x), (1, y), (2, z)]) (hx : ev x = .string d) (hy : ev y = .int .i64 a) (hz : ev z = .int .i64 n) : (execOp ev o).run Tryd.prog w = .ok (.value (.agg #[.string d, .int .i64 a, .int .i64 n])) w := by
  simp [execOp, ho, hx, hy, hz, go_sem]
theorem rn_bs32 {d : ByteArray} {a n : Int} (ho : o.op = .buildSlice 32 1 #[(0, x)]) (hx : ev x = .agg #[.string d, .int .i64 a, .int .i64 n]) : (execOp ev o).run Tryd.prog w = .ok (.value (.slice (some ⟨w.heap.size, 0, none⟩) 1 1)) (w.alloc (.cells #[.string d, .int .i64 a, .int .i64 n] 42)) := by
  simp [execOp, ho, hx, go_sem]
theorem rn_ixp {g f n c i : Nat} (ho : o.op = .indexAddr 43 x y) (hx : ev x = .slice (some ⟨g, f, none⟩) n c) (hy : ev y = .int .i64 (i : Int)) (hi : i < n) : (execOp ev o).run Tryd.prog w = .ok (.value (.pointer (some ⟨g, f + i, none⟩))) w := by
  have q1 : (i : Int) < (n : Int) := by omega
  simp [execOp, ho, hx, hy, go_sem, q1]
end
def r6F (lo hs q gc oc n cap k : Nat) (Aa : Option Addr) (ca : Nat) (s : ByteArray) (xa : List Value) (d : Nat) (v : Value) (W : World) : Prop := match d with
  | 24 => v = .pointer (some ⟨q, 2, none⟩)
  | 25 => v = .slice Aa k ca
  | 26 => v = .slice (some ⟨gc, oc, none⟩) n cap
  | 27 => v = .int .i64 (k : Int)
  | 28 => v = .pointer (some ⟨gc, oc + k, none⟩)
  | 29 => v = .string s
  | 30 => v = .string (dg s)
  | 31 => ∃ b, v = .slice (some ⟨b, 0, none⟩) 1 1 ∧ hs ≤ b ∧ Has W b (sTx [dg s]) 9
  | 32 => ∃ A1 c1, v = .slice A1 (k + 1) c1 ∧ W.ownsRow lo 9 1 v (k + 1) (xa ++ [.string (dg s)])
  | 33 => v = .pointer (some ⟨q, 2, none⟩)
  | _ => True
theorem r6F_mono {lo hs q gc oc n cap k : Nat} {Aa : Option Addr} {ca : Nat} {s : ByteArray} {xa : List Value} {W W' : World} (hb : Below W.heap.size W W') (d : Nat) (v : Value) (h : r6F lo hs q gc oc n cap k Aa ca s xa d v W) : r6F lo hs q gc oc n cap k Aa ca s xa d v W' := by
  unfold r6F at h ⊢
  split at h
  · exact h
  · exact h
  · exact h
  · exact h
  · exact h
  · exact h
  · exact h
  · obtain ⟨b, h1, h2, h3⟩ := h
    exact ⟨b, h1, h2, h3.below hb h3.lt⟩
  · obtain ⟨A1, c1, h1, h2⟩ := h
    exact ⟨A1, c1, h1, own_below h2 hb (Nat.le_refl _)⟩
  · exact h
  · trivial
theorem r6F_grow {lo hs q gc oc n cap k : Nat} {Aa : Option Addr} {ca : Nat} {s : ByteArray} {xa : List Value} {W W' : World} (hg : W.grownBy W' (Value.slice Aa k ca).ownBlock) (hlt : ∀ j, (Value.slice Aa k ca).ownBlock = some j → j < hs) (d : Nat) (v : Value) (hd : d ≠ 32) (h : r6F lo hs q gc oc n cap k Aa ca s xa d v W) : r6F lo hs q gc oc n cap k Aa ca s xa d v W' := by
  unfold r6F at h ⊢
  split at h
  · exact h
  · exact h
  · exact h
  · exact h
  · exact h
  · exact h
  · exact h
  · obtain ⟨b, h1, h2, h3⟩ := h
    exact ⟨b, h1, h2, h3.grown hg (fun e => by have := hlt b e; omega)⟩
  · exact absurd rfl hd
  · exact h
  · trivial
def r7F (lo hs q gc oc n cap k gi oi ci pt : Nat) (Ab : Option Addr) (cb : Nat) (D s : ByteArray) (xb : List Value) (d : Nat) (v : Value) (W : World) : Prop := match d with
  | 34 => v = .pointer (some ⟨q, 3, none⟩)
  | 35 => v = .slice Ab k cb
  | 36 => v = .pointer (some ⟨q, 1, none⟩)
  | 37 => v = .string D
  | 38 => v = .slice (some ⟨gi, oi, none⟩) n ci
  | 39 => v = .int .i64 (k : Int)
  | 40 => v = .pointer (some ⟨gi, oi + k, none⟩)
  | 41 => v = .int .i64 (pt : Int)
  | 42 => v = .slice (some ⟨gc, oc, none⟩) n cap
  | 43 => v = .int .i64 (k : Int)
  | 44 => v = .pointer (some ⟨gc, oc + k, none⟩)
  | 45 => v = .string s
  | 46 => v = .int .i64 (s.size : Int)
  | 47 => v = .agg #[.string D, .int .i64 (pt : Int), .int .i64 (s.size : Int)]
  | 48 => ∃ b, v = .slice (some ⟨b, 0, none⟩) 1 1 ∧ hs ≤ b ∧ Has W b #[.string D, .int .i64 (pt : Int), .int .i64 (s.size : Int)] 42
  | 49 => ∃ A1 c1, v = .slice A1 (k + 1) c1 ∧ W.ownsRow lo 42 3 v (k + 1) (xb ++ [.string D, .int .i64 (pt : Int), .int .i64 (s.size : Int)])
  | 50 => v = .pointer (some ⟨q, 3, none⟩)
  | _ => True
theorem r7F_mono {lo hs q gc oc n cap k gi oi ci pt : Nat} {Ab : Option Addr} {cb : Nat} {D s : ByteArray} {xb : List Value} {W W' : World} (hb : Below W.heap.size W W') (d : Nat) (v : Value) (h : r7F lo hs q gc oc n cap k gi oi ci pt Ab cb D s xb d v W) : r7F lo hs q gc oc n cap k gi oi ci pt Ab cb D s xb d v W' := by
  unfold r7F at h ⊢
  split at h
  · exact h
  · exact h
  · exact h
  · exact h
  · exact h
  · exact h
  · exact h
  · exact h
  · exact h
  · exact h
  · exact h
  · exact h
  · exact h
  · exact h
  · obtain ⟨b, h1, h2, h3⟩ := h
    exact ⟨b, h1, h2, h3.below hb h3.lt⟩
  · obtain ⟨A1, c1, h1, h2⟩ := h
    exact ⟨A1, c1, h1, own_below h2 hb (Nat.le_refl _)⟩
  · exact h
  · trivial
theorem r7F_grow {lo hs q gc oc n cap k gi oi ci pt : Nat} {Ab : Option Addr} {cb : Nat} {D s : ByteArray} {xb : List Value} {W W' : World} (hg : W.grownBy W' (Value.slice Ab k cb).ownBlock) (hlt : ∀ j, (Value.slice Ab k cb).ownBlock = some j → j < hs) (d : Nat) (v : Value) (hd : d ≠ 49) (h : r7F lo hs q gc oc n cap k gi oi ci pt Ab cb D s xb d v W) : r7F lo hs q gc oc n cap k gi oi ci pt Ab cb D s xb d v W' := by
  unfold r7F at h ⊢
  split at h
  · exact h
  · exact h
  · exact h
  · exact h
  · exact h
  · exact h
  · exact h
  · exact h
  · exact h
  · exact h
  · exact h
  · exact h
  · exact h
  · exact h
  · obtain ⟨b, h1, h2, h3⟩ := h
    exact ⟨b, h1, h2, h3.grown hg (fun e => by have := hlt b e; omega)⟩
  · exact absurd rfl hd
  · exact h
  · trivial
theorem own_n {W : World} {lo e m n n' : Nat} {v : Value} {xs : List Value} (h : W.ownsRow lo e m v n xs) (hn : n = n') : W.ownsRow lo e m v n' xs := hn ▸ h
theorem own_setCells {lo e m n : Nat} {v : Value} {xs : List Value} {b : Nat} {t : TypeId} (ht : t ≠ e) : ∀ (vs : List Value) (o : Nat) {W : World} {cs : Array Value}, W.ownsRow lo e m v n xs → Has W b cs t → (W.setCells b o vs).ownsRow lo e m v n xs
  | [], _, _, _, h, _ => h
  | u :: r, o, _, _, h, hb => by
    rw [World.setCells]
    exact own_setCells ht r (o + 1) (own_set (o := o) h hb ht u) (hb.set o u)
theorem add_zero' (b j : Nat) : (⟨b, 0, none⟩ : Addr).add j = ⟨b, j, none⟩ := by unfold Addr.add; split <;> simp_all
theorem own_slice {W : World} {lo e m n : Nat} {v : Value} {xs : List Value} (h : W.ownsRow lo e m v n xs) : ∃ A cap, v = .slice A n cap := by
  rcases h.2 with ⟨h1, h2⟩ | ⟨g, cap, cur, hv, _⟩
  · exact ⟨none, 0, by rw [h1, h2]⟩
  · exact ⟨_, cap, hv⟩
set_option maxRecDepth 20000 in
set_option maxHeartbeats 8000000 in
theorem refOne_any (p : List ByteArray) (A : Option Addr) (cap : Nat) (w : World) (h : Tx w A p) (hM : May (p.map bs)) :
    Calls Tryd.prog 20 #[.slice A p.length cap] w fun e w' => ∃ vA vB, e = .returned (.agg #[.string (pb p), .string (dg (pb p)), vA, vB]) ∧ w'.ownsRow w.heap.size 9 1 vA p.length ((p.map dg).map Value.string) ∧ w'.ownsRow w.heap.size 42 3 vB p.length ((plT p).flatMap pl3) ∧ Below w.heap.size w w' := by
  obtain ⟨i0, hi, hz0, hz1, hz2⟩ := info_parts (show (Tryd.prog.info? 9).map (fun i => (i.zero, i.size, i.bytes)) = some (some (.string ⟨#[]⟩), 1, 16) by kernel_rfl)
  obtain ⟨j0, hj, hy0, hy1, hy2⟩ := info_parts (show (Tryd.prog.info? 42).map (fun i => (i.zero, i.size, i.bytes)) = some (some (.agg #[.string ⟨#[]⟩, .int .i64 0, .int .i64 0]), 3, 32) by kernel_rfl)
  obtain ⟨h1, h2⟩ := may_tot hM
  have C1 := fun W (h : Tx W A p) => refMake_yes p A cap W h hM
  change ∀ W, Tx W A p → Calls Tryd.prog 31 _ W fun e w' => ∃ B cb, e = .returned (.tuple #[.string (pb p), _, _]) ∧ _ at C1
  have hsz := pb_size p
  have HC2 := hid (fun W => refDig_any (pb p) (by omega) W)
  have b0 : Below w.heap.size w (w.alloc (.cells #[.string ⟨#[]⟩, .string ⟨#[]⟩, .slice none 0 0, .slice none 0 0] 34)) := (Below.refl _ _).alloc (Nat.le_refl _) _
  have hR0 := Has.new w w.heap.size #[.string ⟨#[]⟩, .string ⟨#[]⟩, .slice none 0 0, .slice none 0 0] 34 rfl
  have HL0 := hid (h.below b0)
  have HR0 := hid hR0
  have HB0 := hid b0
  have HT2 := hid h2
  clear hR0 b0 h hM h2
  go_enter Tryd.func20, Tryd.ntmps20
  go_wp2_with fail
  refine (C1 _ HL0.out).mono ?_
  rintro e w1a ⟨gI, cI, rfl, i1, bb1⟩
  have HL1 := hid (HL0.out.below bb1)
  have HR1 := hid (HR0.out.below bb1 HR0.out.lt)
  have HB1 := hid (HB0.out.trans (bb1.mono HB0.out.size))
  have HI1 := hid i1
  clear i1 bb1 C1 HL0 HR0 HB0
  go_wp2_with fail
  refine (HC2.out _).mono ?_
  rintro e w1 ⟨rfl, bb2⟩
  have HL := hid (HL1.out.below bb2)
  have HR := hid (HR1.out.below bb2 HR1.out.lt)
  have HBw := hid (HB1.out.trans (bb2.mono HB1.out.size))
  have HI := hid (HI1.out.below bb2)
  clear bb2 HC2 HL1 HR1 HB1 HI1
  obtain ⟨n, hn⟩ : ∃ n, n = p.length := ⟨_, rfl⟩
  have HN := hid hn
  rw [← hn] at h1 ⊢
  clear hn
  go_wp2_with fail
  have hq0 := Has.new w1 w1.heap.size #[.string (pb p), .string (dg (pb p)), .slice none 0 0, .slice none 0 0] 34 rfl
  have hb0 : Below w1.heap.size w1 (w1.alloc (.cells #[.string (pb p), .string (dg (pb p)), .slice none 0 0, .slice none 0 0] 34)) := (Below.refl _ _).alloc (Nat.le_refl _) _
  have HQ0 := hid hq0
  have HBB0 := hid hb0
  clear hq0 hb0
  have HRC0 : Hid (RC w1 w1.heap.size w1.heap.size w1.heap.size #[.string (pb p), .string (dg (pb p)), .slice none 0 0, .slice none 0 0] (.slice none 0 0) (.slice none 0 0) 0 0 [] [] (w1.alloc (.cells #[.string (pb p), .string (dg (pb p)), .slice none 0 0, .slice none 0 0] 34))) := hid ⟨HBB0.out, HQ0.out, World.ownsRow_nil _ _ _ _, World.ownsRow_nil _ _ _ _, by simp, Nat.le_refl _⟩
  clear HQ0 HBB0
  obtain ⟨q, hq⟩ : ∃ q, q = w1.heap.size := ⟨_, rfl⟩
  have HQE := hid hq
  generalize w1.alloc (.cells #[.string (pb p), .string (dg (pb p)), .slice none 0 0, .slice none 0 0] 34) = w2 at *
  obtain ⟨D, hD⟩ : ∃ D, D = dg (pb p) := ⟨_, rfl⟩
  have HD := hid hD
  rw [← hD] at HRC0 ⊢
  rw [← hq]
  have HRC1 : Hid (RC w1 w1.heap.size w1.heap.size q #[.string (pb p), .string D, .slice none 0 0, .slice none 0 0] (.slice none 0 0) (.slice none 0 0) 0 0 [] [] w2) := by rw [hq]; exact HRC0
  clear HRC0 hq hD
  obtain ⟨B, hB⟩ : ∃ B, B = pb p := ⟨_, rfl⟩
  have HBq := hid hB
  rw [← hB] at HRC1 ⊢
  clear hB
  go_loopw [7] (fun v7 wr => ∃ (k : Nat) (Aa Ab : Option Addr) (ca cb : Nat), k ≤ n ∧ v7 = .int .i64 (k : Int) ∧ Hid (RC w1 w1.heap.size w1.heap.size q #[.string B, .string D, .slice Aa k ca, .slice Ab k cb] (.slice Aa k ca) (.slice Ab k cb) k k (((p.take k).map dg).map Value.string) (((plT p).take k).flatMap pl3) wr)) (fun v7 _ => n - (intOf v7).toNat)
  case atStart => exact ⟨0, none, none, 0, 0, Nat.zero_le _, rfl, HRC1⟩
  case round =>
    clear HRC1
    obtain ⟨k, Aa, Ab, ca, cb, hk, rfl, HRC⟩ := hrel
    by_cases hlt : k < n
    · have hkp : k < p.length := by rw [← HN.out]; exact hlt
      obtain ⟨gc, oc, rfl, hgc, hcc⟩ := HL.out k hkp
      have hpi := HI.out k (by rw [at_len]; exact hkp)
      rw [pat_at p k hkp] at hpi
      obtain ⟨gi, oi, rfl, hgi, hci⟩ := hpi
      have HGC := hid hgc
      have HCC := hid hcc
      have HGI := hid hgi
      have HCI := hid hci
      have hss : (p.getD k ⟨#[]⟩).size ≤ 100000000000 := by have := tot_le (getD_mem hkp); have := HT2.out; omega
      have HSS := hid hss
      have HTN : Hid (((p.take (k + 1)).map dg).map Value.string = ((p.take k).map dg).map Value.string ++ [.string (dg (p.getD k ⟨#[]⟩))]) := hid (by rw [take_next p k hkp]; simp)
      have HPN : Hid (((plT p).take (k + 1)).flatMap pl3 = ((plT p).take k).flatMap pl3 ++ [.string D, .int .i64 (pat p k : Int), .int .i64 ((p.getD k ⟨#[]⟩).size : Int)]) := hid (by
        rw [List.take_add_one, plT_get p k hkp, List.flatMap_append, HD.out]; simp [pl3])
      generalize p.getD k ⟨#[]⟩ = s at *
      generalize pat p k = pt at *
      obtain ⟨xa, hxa⟩ : ∃ xa, xa = ((p.take k).map dg).map Value.string := ⟨_, rfl⟩
      obtain ⟨xb, hxb⟩ : ∃ xb, xb = ((plT p).take k).flatMap pl3 := ⟨_, rfl⟩
      rw [← hxa] at HRC HTN
      rw [← hxb] at HRC HPN
      clear hgc hcc hgi hci hss hxa hxb
      have i1 : (k : Int) < (n : Int) := by omega
      have i0' : (0 : Int) ≤ (k : Int) := by omega
      have wk : IntKind.i64.wrap ((k : Int) + 1) = ((k + 1 : Nat) : Int) := by rw [IntKind.wrap_i64]; omega
      have hk1 : k + 1 ≤ n := hlt
      have HML : Hid (k + 1 ≤ maxLen) := hid (by unfold maxLen; omega)
      have HMB : Hid ((k + 1) * 16 ≤ 140737488355328) := hid (by omega)
      have HMB2 : Hid ((k + 1) * 32 ≤ 140737488355328) := hid (by omega)
      have hlo := HRC.out.bel.size
      obtain ⟨cs, hcs⟩ : ∃ cs : Array Value, cs = #[.string B, .string D, .slice Aa k ca, .slice Ab k cb] := ⟨_, rfl⟩
      have HC2 : Hid (cs[2]? = some (.slice Aa k ca)) := hid (by rw [hcs]; rfl)
      have HCS := hid hcs
      rw [← hcs] at HRC
      clear hcs
      have HLA := hid (fun j hj => (HRC.out.ra.lt j hj).2)
      have hC0 : Hid (RC w1 w1.heap.size wr.heap.size q cs (.slice Aa k ca) (.slice Ab k cb) k k xa xb wr.drew) := hid ((HRC.out.at hlo (Nat.le_refl wr.heap.size)).below (Below.refl _ _).drew)
      clear hlo
      go_wp2_with fail
      refine Tl.wp_mix_lit (by kernel_rfl) 10 [24, 25, 26, 27, 28, 29, 30, 31, 32, 33] 52 rfl (by kernel_rfl) (RC w1 w1.heap.size wr.heap.size q cs (.slice Aa k ca) (.slice Ab k cb) k k xa xb) (r6F w1.heap.size wr.heap.size q gc oc n cap k Aa ca s xa) hC0.out
        ⟨fun a' W' hC hF => ?_, fun a' W' hC hF => ?_, fun a' W' hC hF => ?_, fun a' W' hC hF => ?_, fun a' W' hC hF => ?_, fun a' W' hC hF => ?_, fun a' W' hC hF => ?_, fun a' W' hC hF => ?_, fun a' W' hC hF => ?_, fun a' W' hC hF => ?_, trivial⟩ ?_
      · exact Tl.sm_v 24 _ rfl (Tl.wanted_none rfl) hC rfl (rn_fa34_2 rfl ((hF 6 (by decide +kernel)).2 (by decide)))
      · exact Tl.sm_v 25 _ rfl (Tl.wanted_none rfl) hC rfl (rn_load22 rfl (show Act.eval a' (.tmp 24) = .pointer (some ⟨q, 2, none⟩) from ((hF 24 (by decide +kernel)).1 (by decide))) (by rw [hC.hq.cell]; exact HC2.out))
      · exact Tl.sm_v 26 _ rfl (Tl.wanted_none rfl) hC rfl (rn_move rfl ((hF 0 (by decide +kernel)).2 (by decide)))
      · exact Tl.sm_v 27 _ rfl (Tl.wanted_none rfl) hC rfl (rn_move rfl ((hF 7 (by decide +kernel)).2 (by decide)))
      · exact Tl.sm_v 28 _ rfl (Tl.wanted_none rfl) hC rfl (rn_ixo rfl (show Act.eval a' (.tmp 26) = .slice (some ⟨gc, oc, none⟩) n cap from ((hF 26 (by decide +kernel)).1 (by decide))) (show Act.eval a' (.tmp 27) = .int .i64 (k : Int) from ((hF 27 (by decide +kernel)).1 (by decide))) hlt)
      · exact Tl.sm_v 29 _ rfl (Tl.wanted_none rfl) hC rfl (rn_load9 rfl (show Act.eval a' (.tmp 28) = .pointer (some ⟨gc, oc + k, none⟩) from ((hF 28 (by decide +kernel)).1 (by decide))) ((hC.bel.cell (p := ⟨gc, oc + k, none⟩) HGC.out).trans HCC.out))
      · refine Tl.sm_call 32 #[_] (Tl.wanted_none rfl) (rn_call1 rfl rfl (show Act.eval a' (.tmp 29) = .string s from ((hF 29 (by decide +kernel)).1 (by decide))) (en32 _ _)) ((refDig_any s HSS.out W').mono ?_)
        rintro e W'' ⟨rfl, hb⟩
        exact ⟨_, rfl, hC.below hb, fun d v _ h => r6F_mono hb d v h, fun d hd => by cases hd; rfl⟩
      · refine Tl.sm_w _ (Tl.wanted_none rfl) (rn_bs1 rfl (show Act.eval a' (.tmp 30) = .string (dg s) from ((hF 30 (by decide +kernel)).1 (by decide)))) (hC.below ((Below.refl _ _).alloc (Nat.le_refl _) _)) (fun d v _ h => r6F_mono ((Below.refl _ _).alloc (Nat.le_refl _) _) d v h) (fun d hd => ?_)
        cases hd
        exact ⟨W'.heap.size, rfl, hC.hsW, Has.new _ _ _ _ rfl⟩
      · obtain ⟨b, e31, hb1, hb2⟩ := (show r6F w1.heap.size wr.heap.size q gc oc n cap k Aa ca s xa 31 (a'.tmps.getD 31 undef) W' from ((hF 31 (by decide +kernel)).1 (by decide)))
        obtain ⟨v2, w2, hrun, hown, hgr, hkeep⟩ := run_append_keep (P := Tryd.prog) W' w1.heap.size 22 22 9 i0 (.string ⟨#[]⟩) 1 16 Tryd.underlying22 hi hz0 hz1 hz2 rfl (by decide) (.slice Aa k ca) k xa hC.ra ⟨b, 0, none⟩ 1 1 [.string (dg s)] rfl (fun j u hu => by rw [add_zero', hb2.cell]; simpa [sTx] using hu) (by simp [Value.oneCell']) HML.out HMB.out (Nat.le_trans hC.lo1 hC.hsW)
        obtain ⟨A1, c1, ev2⟩ := own_slice hown
        refine Tl.sm_w v2 (Tl.wanted_none rfl) (rn_app22 rfl (show Act.eval a' (.tmp 25) = .slice Aa k ca from ((hF 25 (by decide +kernel)).1 (by decide))) e31 rfl hrun) (hC.growA hgr hkeep) (fun d v hd h => r6F_grow hgr HLA.out d v (fun e => hd (by rw [e])) h) (fun d hd => ?_)
        cases hd
        exact ⟨A1, c1, ev2, hown⟩
      · exact Tl.sm_v 33 _ rfl (Tl.wanted_none rfl) hC rfl (rn_fa34_2 rfl ((hF 6 (by decide +kernel)).2 (by decide)))
      intro v' w3 hC hv
      obtain ⟨A1, c1, e32, hrow⟩ := (show r6F w1.heap.size wr.heap.size q gc oc n cap k Aa ca s xa 32 (v' 32) w3 from hv 32 (by decide))
      have e33 : v' 33 = .pointer (some ⟨q, 2, none⟩) := hv 33 (by decide)
      clear hv
      rw [e32] at hrow
      simp only [Tl.fill, List.drop]
      simp only [Act.put, List.setIfInBounds_toArray, List.set_cons_succ, List.set_cons_zero, e32, e33]
      have hqc : w3.cell? ⟨q, 2, none⟩ = some (.slice Aa k ca) := by rw [hC.hq.cell]; exact HC2.out
      refine wpList_st rfl rfl (rn_st22 (x := .tmp 33) (y := .tmp 32) rfl rfl rfl hqc (hC.hq.frozen 2)) ?_
      have HR4 := hid (hC.setA (by rw [HQE.out]; exact Nat.le_refl _) hrow)
      clear e32 e33 hqc hrow hC hC0 HLA
      generalize w3.setCell ⟨q, 2, none⟩ (.slice A1 (k + 1) c1) = w4 at *
      simp only [wpList]
      obtain ⟨cs7, hcs7⟩ : ∃ cs7 : Array Value, cs7 = cs.setIfInBounds 2 (.slice A1 (k + 1) c1) := ⟨_, rfl⟩
      have HC3 : Hid (cs7[3]? = some (.slice Ab k cb)) := hid (by rw [hcs7, HCS.out]; rfl)
      have HC1 : Hid (cs7[1]? = some (.string D)) := hid (by rw [hcs7, HCS.out]; rfl)
      have HCS7 : Hid (cs7 = #[.string B, .string D, .slice A1 (k + 1) c1, .slice Ab k cb]) := hid (by rw [hcs7, HCS.out]; rfl)
      rw [← hcs7] at HR4
      obtain ⟨xa7, hxa7⟩ : ∃ xa7, xa7 = xa ++ [.string (dg s)] := ⟨_, rfl⟩
      rw [← hxa7] at HR4 HTN
      clear hcs7 hxa7
      have hlo4 := HR4.out.bel.size
      have HLB := hid (fun j hj => (HR4.out.rb.lt j hj).2)
      have hC7 : Hid (RC w1 w1.heap.size w4.heap.size q cs7 (.slice A1 (k + 1) c1) (.slice Ab k cb) (k + 1) k xa7 xb w4.drew) := hid ((HR4.out.at hlo4 (Nat.le_refl w4.heap.size)).below (Below.refl _ _).drew)
      clear hlo4
      go_wp2_with fail
      refine Tl.wp_mix_lit (by kernel_rfl) 17 [34, 35, 36, 37, 38, 39, 40, 41, 42, 43, 44, 45, 46, 47, 48, 49, 50] 52 rfl (by kernel_rfl) (RC w1 w1.heap.size w4.heap.size q cs7 (.slice A1 (k + 1) c1) (.slice Ab k cb) (k + 1) k xa7 xb) (r7F w1.heap.size w4.heap.size q gc oc n cap k gi oi cI pt Ab cb D s xb) hC7.out
        ⟨fun a' W' hC hF => ?_, fun a' W' hC hF => ?_, fun a' W' hC hF => ?_, fun a' W' hC hF => ?_, fun a' W' hC hF => ?_, fun a' W' hC hF => ?_, fun a' W' hC hF => ?_, fun a' W' hC hF => ?_, fun a' W' hC hF => ?_, fun a' W' hC hF => ?_, fun a' W' hC hF => ?_, fun a' W' hC hF => ?_, fun a' W' hC hF => ?_, fun a' W' hC hF => ?_, fun a' W' hC hF => ?_, fun a' W' hC hF => ?_, fun a' W' hC hF => ?_, trivial⟩ ?_
      · exact Tl.sm_v 34 _ rfl (Tl.wanted_none rfl) hC rfl (rn_fa34_3 rfl ((hF 6 (by decide +kernel)).2 (by decide)))
      · exact Tl.sm_v 35 _ rfl (Tl.wanted_none rfl) hC rfl (rn_load32 rfl (show Act.eval a' (.tmp 34) = .pointer (some ⟨q, 3, none⟩) from ((hF 34 (by decide +kernel)).1 (by decide))) (by rw [hC.hq.cell]; exact HC3.out))
      · exact Tl.sm_v 36 _ rfl (Tl.wanted_none rfl) hC rfl (rn_fa34_1 rfl ((hF 6 (by decide +kernel)).2 (by decide)))
      · exact Tl.sm_v 37 _ rfl (Tl.wanted_none rfl) hC rfl (rn_load9 rfl (show Act.eval a' (.tmp 36) = .pointer (some ⟨q, 1, none⟩) from ((hF 36 (by decide +kernel)).1 (by decide))) (by rw [hC.hq.cell]; exact HC1.out))
      · exact Tl.sm_v 38 _ rfl (Tl.wanted_none rfl) hC rfl (rn_move rfl ((hF 4 (by decide +kernel)).2 (by decide)))
      · exact Tl.sm_v 39 _ rfl (Tl.wanted_none rfl) hC rfl (rn_move rfl ((hF 7 (by decide +kernel)).2 (by decide)))
      · exact Tl.sm_v 40 _ rfl (Tl.wanted_none rfl) hC rfl (rn_ixp rfl (show Act.eval a' (.tmp 38) = .slice (some ⟨gi, oi, none⟩) n cI from ((hF 38 (by decide +kernel)).1 (by decide))) (show Act.eval a' (.tmp 39) = .int .i64 (k : Int) from ((hF 39 (by decide +kernel)).1 (by decide))) hlt)
      · exact Tl.sm_v 41 _ rfl (Tl.wanted_none rfl) hC rfl (rn_load3 rfl (show Act.eval a' (.tmp 40) = .pointer (some ⟨gi, oi + k, none⟩) from ((hF 40 (by decide +kernel)).1 (by decide))) ((hC.bel.cell (p := ⟨gi, oi + k, none⟩) HGI.out).trans HCI.out))
      · exact Tl.sm_v 42 _ rfl (Tl.wanted_none rfl) hC rfl (rn_move rfl ((hF 0 (by decide +kernel)).2 (by decide)))
      · exact Tl.sm_v 43 _ rfl (Tl.wanted_none rfl) hC rfl (rn_move rfl ((hF 7 (by decide +kernel)).2 (by decide)))
      · exact Tl.sm_v 44 _ rfl (Tl.wanted_none rfl) hC rfl (rn_ixo rfl (show Act.eval a' (.tmp 42) = .slice (some ⟨gc, oc, none⟩) n cap from ((hF 42 (by decide +kernel)).1 (by decide))) (show Act.eval a' (.tmp 43) = .int .i64 (k : Int) from ((hF 43 (by decide +kernel)).1 (by decide))) hlt)
      · exact Tl.sm_v 45 _ rfl (Tl.wanted_none rfl) hC rfl (rn_load9 rfl (show Act.eval a' (.tmp 44) = .pointer (some ⟨gc, oc + k, none⟩) from ((hF 44 (by decide +kernel)).1 (by decide))) ((hC.bel.cell (p := ⟨gc, oc + k, none⟩) HGC.out).trans HCC.out))
      · exact Tl.sm_v 46 _ rfl (Tl.wanted_none rfl) hC rfl (rn_len9 rfl (show Act.eval a' (.tmp 45) = .string s from ((hF 45 (by decide +kernel)).1 (by decide))) rfl)
      · exact Tl.sm_v 47 _ rfl (Tl.wanted_none rfl) hC rfl (rn_bd42 rfl (show Act.eval a' (.tmp 37) = .string D from ((hF 37 (by decide +kernel)).1 (by decide))) (show Act.eval a' (.tmp 41) = .int .i64 (pt : Int) from ((hF 41 (by decide +kernel)).1 (by decide))) (show Act.eval a' (.tmp 46) = .int .i64 (s.size : Int) from ((hF 46 (by decide +kernel)).1 (by decide))))
      · refine Tl.sm_w _ (Tl.wanted_none rfl) (rn_bs32 rfl (show Act.eval a' (.tmp 47) = .agg #[.string D, .int .i64 (pt : Int), .int .i64 (s.size : Int)] from ((hF 47 (by decide +kernel)).1 (by decide)))) (hC.below ((Below.refl _ _).alloc (Nat.le_refl _) _)) (fun d v _ h => r7F_mono ((Below.refl _ _).alloc (Nat.le_refl _) _) d v h) (fun d hd => ?_)
        cases hd
        exact ⟨W'.heap.size, rfl, hC.hsW, Has.new _ _ _ _ rfl⟩
      · obtain ⟨b, e48, hb1, hb2⟩ := (show r7F w1.heap.size w4.heap.size q gc oc n cap k gi oi cI pt Ab cb D s xb 48 (a'.tmps.getD 48 undef) W' from ((hF 48 (by decide +kernel)).1 (by decide)))
        obtain ⟨v2, w2, hrun, hown, hgr, hkeep⟩ := run_append_keep (P := Tryd.prog) W' w1.heap.size 32 32 42 j0 (.agg #[.string ⟨#[]⟩, .int .i64 0, .int .i64 0]) 3 32 Tryd.underlying32 hj hy0 hy1 hy2 rfl (by decide) (.slice Ab k cb) k xb hC.rb ⟨b, 0, none⟩ 1 1 [.string D, .int .i64 (pt : Int), .int .i64 (s.size : Int)] rfl (fun j u hu => by rw [add_zero', hb2.cell]; simpa using hu) (by simp [Value.oneCell']) HML.out HMB2.out (Nat.le_trans hC.lo1 hC.hsW)
        obtain ⟨A2, c2, ev2⟩ := own_slice hown
        refine Tl.sm_w v2 (Tl.wanted_none rfl) (rn_app32 rfl (show Act.eval a' (.tmp 35) = .slice Ab k cb from ((hF 35 (by decide +kernel)).1 (by decide))) e48 rfl hrun) (hC.growB hgr hkeep) (fun d v hd h => r7F_grow hgr HLB.out d v (fun e => hd (by rw [e])) h) (fun d hd => ?_)
        cases hd
        exact ⟨A2, c2, ev2, hown⟩
      · exact Tl.sm_v 50 _ rfl (Tl.wanted_none rfl) hC rfl (rn_fa34_3 rfl ((hF 6 (by decide +kernel)).2 (by decide)))
      intro v' w5 hC hv
      obtain ⟨A2, c2, e49, hrow⟩ := (show r7F w1.heap.size w4.heap.size q gc oc n cap k gi oi cI pt Ab cb D s xb 49 (v' 49) w5 from hv 49 (by decide))
      have e50 : v' 50 = .pointer (some ⟨q, 3, none⟩) := hv 50 (by decide)
      clear hv
      rw [e49] at hrow
      simp only [Tl.fill, List.drop]
      simp only [Act.put, List.setIfInBounds_toArray, List.set_cons_succ, List.set_cons_zero, e49, e50]
      have hqc : w5.cell? ⟨q, 3, none⟩ = some (.slice Ab k cb) := by rw [hC.hq.cell]; exact HC3.out
      refine wpList_st rfl rfl (rn_st32 (x := .tmp 50) (y := .tmp 49) rfl rfl rfl hqc (hC.hq.frozen 3)) ?_
      have HR6 := hC.setB (by rw [HQE.out]; exact Nat.le_refl _) hrow
      rw [← HPN.out, ← HTN.out, HCS7.out] at HR6
      have HR7 := hid (HR6.at (Nat.le_refl _) (Nat.le_trans HR6.lo1 HR6.hsW))
      clear e49 e50 hqc hrow hC HR6 hC7 HLB
      generalize w5.setCell ⟨q, 3, none⟩ (.slice A2 (k + 1) c2) = w6 at *
      simp only [wpList]
      go_wp2_with fail
      go_roundw
      case rel => exact ⟨k + 1, A1, A2, c1, c2, hk1, by rfl, HR7⟩
      case measure => first | (simp [intOf]; done) | (simp [intOf]; omega)
    · obtain rfl : k = n := by omega
      have q1 : ¬ ((k : Int) < (k : Int)) := by omega
      have HR9 := hid (HR.out.below HRC.out.bel HR.out.lt)
      have c0 := HRC.out.hq.cell 0
      have c1 := HRC.out.hq.cell 1
      have c2 := HRC.out.hq.cell 2
      have c3 := HRC.out.hq.cell 3
      simp at c0 c1 c2 c3
      have d0 := HR9.out.cell 0
      have d1 := HR9.out.cell 1
      have d2 := HR9.out.cell 2
      have d3 := HR9.out.cell 3
      simp at d0 d1 d2 d3
      have f0 := HR9.out.frozen 0
      have f1 := HR9.out.frozen 1
      have f2 := HR9.out.frozen 2
      have f3 := HR9.out.frozen 3
      go_wp2_with fail
      have hfin : Has (wr.setCells w.heap.size 0 [.string B, .string D, .slice Aa k ca, .slice Ab k cb]) w.heap.size #[.string B, .string D, .slice Aa k ca, .slice Ab k cb] 34 := has_setRow HR9.out rfl
      have e1 : p.take k = p := by rw [HN.out]; exact List.take_length
      have e2 : (plT p).take k = plT p := List.take_of_length_le (by rw [plT_len, HN.out]; exact Nat.le_refl _)
      have hra := HRC.out.ra
      have hrb := HRC.out.rb
      rw [e1] at hra
      rw [e2] at hrb
      have hlw : w.heap.size ≤ w1.heap.size := HBw.out.size
      have hsa := own_setCells (show (34 : Nat) ≠ 9 by decide) [.string B, .string D, .slice Aa k ca, .slice Ab k cb] 0 (own_mono hra hlw) HR9.out
      have hsb := own_setCells (show (34 : Nat) ≠ 42 by decide) [.string B, .string D, .slice Aa k ca, .slice Ab k cb] 0 (own_mono hrb hlw) HR9.out
      rw [List.map_map] at hsa
      have gB := below_setCells (Nat.le_refl _) [.string B, .string D, .slice Aa k ca, .slice Ab k cb] 0 (HBw.out.trans (HRC.out.bel.mono HBw.out.size))
      refine ret_pk 34 hfin rfl Tryd.underlying34 (by kernel_rfl) Tryd.results20 rfl rfl ⟨.slice Aa k ca, .slice Ab k cb, by rw [HD.out, HBq.out], own_n hsa HN.out, own_n hsb HN.out, gB⟩
end Go.Proofs.YtjhjolnflkekoaaDoor
