/- Rows that a call makes by append, their elements of one cell or more. -/
import Derived.Test.YtgdiaflikfdnaaaP4
namespace Go.Proofs.Ytgdiaflikfdnaaa
open Go.RowKit Go.Maps
/-- what is known of an element's type -/
structure El (T e : TypeId) (size : Nat) : Prop where
  un : Try.prog.underlying T = some (.slice e)
  info : ∃ i z bytes, Try.prog.info? e = some i ∧ i.zero = some z ∧ i.size = size ∧ i.bytes = bytes ∧ z.cells.size = size ∧ bytes ≤ 1000
  pos : 0 < size
theorem el_of {T e : TypeId} {size bytes : Nat} {z : Value} (hu : Try.prog.underlying T = some (.slice e)) (h : (Try.prog.info? e).map (fun i => (i.zero, i.size, i.bytes)) = some (some z, size, bytes)) (hz : z.cells.size = size) (hb : bytes ≤ 1000) (hp : 0 < size) : El T e size := by
  obtain ⟨i, h1, h2, h3, h4⟩ := info_parts h
  exact ⟨hu, ⟨i, z, bytes, h1, h2, h3, h4, hz, hb⟩, hp⟩
theorem el28 : El 45 33 2 := el_of (z := .agg #[.string ⟨#[]⟩, .string ⟨#[]⟩]) (bytes := 32) Try.underlying45 (by kernel_rfl) rfl (by decide) (by decide)
theorem el9 : El 28 9 1 := el_of (z := .string ⟨#[]⟩) (bytes := 16) Try.underlying28 (by kernel_rfl) rfl (by decide) (by decide)
theorem el83 : El 81 96 5 := el_of (z := .agg #[.string ⟨#[]⟩, .bool false, .string ⟨#[]⟩, .bool false, .string ⟨#[]⟩]) (bytes := 64) Try.underlying81 (by kernel_rfl) rfl (by decide) (by decide)
theorem run_app2 {T e : TypeId} {size : Nat} (E : El T e size) (w : World) (ty : TypeId) (base : Nat) (v : Value) (n : Nat) (xs : List Value) (hown : w.ownsRow base e size v n xs) (ad : Addr) (m c : Nat) (news : List Value) (hm : 0 < m) (hl : news.length = m * size) (hnews : ∀ j u, news[j]? = some u → w.cell? (ad.add j) = some u) (h1 : ∀ u ∈ news, u.oneCell' = true) (hb : n + m ≤ 100000000) (hbase : base ≤ w.heap.size) :
    ∃ g cap w', (Builtin.append_ #[T, T] ty #[v, .slice (some ad) m c]).run Try.prog w = .ok (.slice (some ⟨g, 0, none⟩) (n + m) cap) w' ∧ w'.ownsRow base e size (.slice (some ⟨g, 0, none⟩) (n + m) cap) (n + m) (xs ++ news) ∧ w.grownBy w' v.ownBlock ∧ w'.ownsRow base e size v n xs ∧ (v.ownBlock = some g ∨ w.heap.size ≤ g) := by
  obtain ⟨i, z, bytes, i1, i2, i3, i4, i5, i6⟩ := E.info
  have hbytes : (n + m) * bytes ≤ 140737488355328 := by
    have : (n + m) * bytes ≤ 100000000 * 1000 := Nat.mul_le_mul hb i6
    omega
  have h63 : n + m ≤ maxLen := by unfold maxLen; omega
  subst i3
  subst i4
  have hlen : (xs ++ news).length = (n + m) * i.size := by rw [List.length_append, hown.1, hl, Nat.add_mul]
  have grown : ∀ (old : Nat), old < n + m → ∀ (row : Option Nat),
      (w.drew.alloc (.cells (xs.toArray ++ news.toArray ++ Builtin.zeroCells z.cells (grownCap w (n + m) old e - (n + m))) e)).ownsRow base e i.size
        (.slice (some ⟨w.heap.size, 0, none⟩) (n + m) (grownCap w (n + m) old e)) (n + m) (xs ++ news) ∧
      w.grownBy (w.drew.alloc (.cells (xs.toArray ++ news.toArray ++ Builtin.zeroCells z.cells (grownCap w (n + m) old e - (n + m))) e)) row := by
    intro old ho row
    have hge := grownCap_ge w (n + m) old e
    have hcm : grownCap w (n + m) old e ≤ maxLen := grownCap_le_maxLen w (n + m) old e h63
    refine ⟨⟨hlen, .inr ⟨w.heap.size, _, _, rfl, hbase, heap_alloc_new w.drew _, hge, hcm, ?_, ?_⟩⟩, ⟨rfl, rfl, rfl, by simp, fun k hk _ => Below.heap_alloc w.drew _ k hk⟩⟩
    · generalize grownCap w (n + m) old e = G at *
      rw [Array.size_append, Array.size_append, List.size_toArray, List.size_toArray, size_zeroCells, i5, hown.1, hl, ← Nat.add_mul, ← Nat.add_mul]
      have : n + m + (G - (n + m)) = G := by omega
      rw [this]
    · simp only [Array.toList_append, List.append_assoc]
      rw [← List.append_assoc, ← hlen]
      exact List.take_left
  have hkept : ∀ cur, (w.drew.alloc (.cells cur e)).ownsRow base e i.size v n xs := fun cur => World.ownsRow.alloc (w := w.drew) hown _
  rcases hown.2 with ⟨rfl, rfl⟩ | ⟨g, cap, cur, rfl, hbg, hg, hnc, hcm, hcs, htake⟩
  · have hx : xs = [] := List.eq_nil_of_length_eq_zero (by simpa using hown.1)
    subst hx
    have hr := run_append_nil (P := Try.prog) w T ty e i z E.un i1 i2 ad m c news hl hnews (by omega) (by omega) (by have hb := hbytes; simp only [Nat.zero_add] at hb; omega)
    have hgr := grown 0 (by omega) (Value.ownBlock (.slice none 0 0))
    simp only [Nat.zero_add, List.nil_append, Array.empty_append] at hgr ⊢
    exact ⟨_, _, _, hr, hgr.1, hgr.2, World.ownsRow_nil _ _ _ _, .inr (Nat.le_refl _)⟩
  · by_cases hroom : n + m ≤ cap
    · have hfit : n * i.size + news.length ≤ cur.size := by rw [hl, hcs, ← Nat.add_mul]; exact Nat.mul_le_mul_right _ hroom
      have hr := run_append_room (P := Try.prog) w T ty e i E.un i1 g n cap cur hg ad m c news hl hnews h1 hroom hfit
      have hsz : (cur.toList.take (n * i.size) ++ news ++ cur.toList.drop (n * i.size + news.length)).length = cap * i.size := by
        simp only [List.length_append, List.length_take, List.length_drop, Array.length_toList]
        omega
      refine ⟨_, _, _, hr, ⟨hlen, .inr ⟨g, cap, _, rfl, hbg, setRow_heap w g cur _ e _ hg, hroom, hcm, ?_, ?_⟩⟩, ⟨rfl, rfl, rfl, by simp, fun k _ hk => setRow_other w g k _ (fun e => hk (by simp [Value.ownBlock, e]))⟩, ⟨hown.1, .inr ⟨g, cap, _, rfl, hbg, setRow_heap w g cur _ e _ hg, hnc, hcm, ?_, ?_⟩⟩, .inl rfl⟩
      · simpa using hsz
      · rw [htake, ← hlen]
        exact List.take_left
      · simpa using hsz
      · simp only []
        rw [htake, List.append_assoc, ← hown.1]
        exact List.take_left
    · have holds : ∀ j u, xs[j]? = some u → w.cell? ((⟨g, 0, none⟩ : Addr).add j) = some u := hown.cells (g := g) rfl
      have hr := run_append_grow (P := Try.prog) w T ty e i z E.un i1 i2 ⟨g, 0, none⟩ n cap xs hown.1 holds ad m c news hl hnews (by omega) (by omega) (growslice_fits (by omega) hbytes)
      have hgr := grown cap (by omega) (Value.ownBlock (.slice (some ⟨g, 0, none⟩) n cap))
      exact ⟨_, _, _, hr, hgr.1, hgr.2, hkept _, .inr (Nat.le_refl _)⟩
theorem run_app {T e : TypeId} {size : Nat} (E : El T e size) (w : World) (ty : TypeId) (base : Nat) (v : Value) (n : Nat) (xs : List Value) (hown : w.ownsRow base e size v n xs) (ad : Addr) (m c : Nat) (news : List Value) (hm : 0 < m) (hl : news.length = m * size) (hnews : ∀ j u, news[j]? = some u → w.cell? (ad.add j) = some u) (h1 : ∀ u ∈ news, u.oneCell' = true) (hb : n + m ≤ 100000000) (hbase : base ≤ w.heap.size) :
    ∃ g cap w', (Builtin.append_ #[T, T] ty #[v, .slice (some ad) m c]).run Try.prog w = .ok (.slice (some ⟨g, 0, none⟩) (n + m) cap) w' ∧ w'.ownsRow base e size (.slice (some ⟨g, 0, none⟩) (n + m) cap) (n + m) (xs ++ news) ∧ w.grownBy w' v.ownBlock := by
  obtain ⟨g, cap, w', r1, r2, r3, _⟩ := run_app2 E w ty base v n xs hown ad m c news hm hl hnews h1 hb hbase
  exact ⟨g, cap, w', r1, r2, r3⟩
/-- append, as an operation of the walk -/
theorem wpList_app {T e : TypeId} {size : Nat} (E : El T e size) {ops : Array Oper} {rest : List Oper} {o : Oper} {a : Act} {w : World} {Q : Exit → Act → World → Prop} (hgd : o.guard = none) (s x : Operand)
    (ho : o.op = .call { callee := .builtin .append, args := #[s, x], argTypes := #[T, T] }) (base : Nat) (v : Value) (n : Nat) (xs : List Value) (hs : a.eval s = v) (hown : w.ownsRow base e size v n xs) (ad : Addr) (m c : Nat) (news : List Value) (hx : a.eval x = .slice (some ad) m c) (hm : 0 < m) (hl : news.length = m * size) (hnews : ∀ j u, news[j]? = some u → w.cell? (ad.add j) = some u) (h1 : ∀ u ∈ news, u.oneCell' = true) (hb : n + m ≤ 100000000) (hbase : base ≤ w.heap.size)
    (h : ∀ g cap w', w'.ownsRow base e size (.slice (some ⟨g, 0, none⟩) (n + m) cap) (n + m) (xs ++ news) → w.grownBy w' v.ownBlock → wpList Try.prog ops Q rest (a.put o.dst (.slice (some ⟨g, 0, none⟩) (n + m) cap)) w') : wpList Try.prog ops Q (o :: rest) a w := by
  obtain ⟨g, cap, w', r1, r2, r3⟩ := run_app E w o.type base v n xs hown ad m c news hm hl hnews h1 hb hbase
  refine wpList_plain hgd fun K hK => ?_
  unfold Oper.wp execOp
  simp only [ho, resolve, invoke, builtin, Sem.run_bind, Sem.run_pure, Result.andThen_ok, List.map_toArray, List.map_cons, List.map_nil, hs, hx, r1]
  exact hK _ _ (h g cap w' r2 r3)
/-- the cells of a new block that a literal lays -/
theorem new_cells (w : World) (cs : List Value) (t : TypeId) : ∀ j u, cs[j]? = some u → (w.alloc (.cells cs.toArray t)).cell? ((⟨w.heap.size, 0, none⟩ : Addr).add j) = some u := by
  intro j u hu
  have e : (⟨w.heap.size, 0, none⟩ : Addr).add j = ⟨w.heap.size, j, none⟩ := by unfold Addr.add; split <;> simp_all
  rw [e, (Has.new w _ cs.toArray t rfl).cell j]
  simpa using hu
theorem row_form {w : World} {base k n : Nat} {e : TypeId} {v : Value} {xs : List Value} (h : w.ownsRow base e k v n xs) : (v = .slice none 0 0 ∧ n = 0 ∧ xs = []) ∨ ∃ g cap, v = .slice (some ⟨g, 0, none⟩) n cap ∧ g < w.heap.size ∧ base ≤ g ∧ n ≤ cap ∧ cap ≤ maxLen ∧ ∀ j u, xs[j]? = some u → w.cell? ⟨g, j, none⟩ = some u := by
  rcases h.2 with ⟨rfl, rfl⟩ | ⟨g, cap, cur, rfl, h2, h3, h4, h5, h6, h7⟩
  · refine .inl ⟨rfl, rfl, ?_⟩
    have := h.1
    simp at this; exact this
  · refine .inr ⟨g, cap, rfl, (Array.getElem?_eq_some_iff.1 h3).1, h2, h4, h5, fun j u hu => ?_⟩
    rw [cell_of_row w g j cur e (0, 0) h3]
    rw [← h7, List.getElem?_take] at hu
    split at hu
    · simpa using hu
    · cases hu
theorem row_below {w w' : World} {base k n : Nat} {e : TypeId} {v : Value} {xs : List Value} (h : w.ownsRow base e k v n xs) (hb : Below w.heap.size w w') : w'.ownsRow base e k v n xs := row_block h fun g _ hl => hb.block g hl
theorem row_base {w : World} {base base' k n : Nat} {e : TypeId} {v : Value} {xs : List Value} (h : w.ownsRow base e k v n xs) (hb : base' ≤ base) : w.ownsRow base' e k v n xs := by
  refine ⟨h.1, ?_⟩
  rcases h.2 with h2 | ⟨g, cap, cur, h2, h3, h4⟩
  · exact .inl h2
  · exact .inr ⟨g, cap, cur, h2, Nat.le_trans hb h3, h4⟩
theorem grown_below {w0 w w' : World} {B base k n : Nat} {e : TypeId} {v : Value} {xs : List Value} (hb : Below B w0 w) (h : w.ownsRow base e k v n xs) (hg : w.grownBy w' v.ownBlock) (hB : B ≤ base) (hs : B ≤ w.heap.size) : Below B w0 w' :=
  hb.grown hg hs fun j hj => Nat.le_trans hB (h.lt j hj).1
/-- objects, as a slice's cells -/
def objCells (M : List Ob) : List Value := M.flatMap fun p => [.string p.1, .string p.2]
theorem objCells_length (M : List Ob) : (objCells M).length = M.length * 2 := by
  induction M with
  | nil => rfl
  | cons p r ih => simp [objCells] at ih ⊢; omega
theorem objCells_snoc (M : List Ob) (p : Ob) : objCells (M ++ [p]) = objCells M ++ [.string p.1, .string p.2] := by simp [objCells]
theorem objCells_get : ∀ (M : List Ob) (k : Nat) (p : Ob), M[k]? = some p → (objCells M)[k * 2]? = some (.string p.1) ∧ (objCells M)[k * 2 + 1]? = some (.string p.2)
  | [], k, p, h => by simp at h
  | q :: r, 0, p, h => by simp at h; subst h; exact ⟨rfl, rfl⟩
  | q :: r, k + 1, p, h => by
    have := objCells_get r k p (by simpa using h)
    have e : (k + 1) * 2 = k * 2 + 2 := by omega
    rw [e]
    exact this
theorem nameCells_get (M : List Ob) (k : Nat) (p : Ob) (h : M[k]? = some p) : (nameCells M)[k]? = some (.string p.1) := by simp [nameCells, h]
theorem fld67 (w : World) (x : Bool) (d : ByteArray) : (Instr.field 85 (.agg #[.bool x, .string d]) 1).run Try.prog w = .ok (.string d) w := by kernel_rfl
set_option maxHeartbeats 1000000 in
set_option maxRecDepth 20000 in
theorem objects_any {w : World} {S : Nat → Prop} {b : Nat} {s : St} (h : IsSt w S b s) (hs : s.seen.length ≤ 1000000) : Calls Try.prog 40 #[ptr b] w fun e w' => ∃ v, e = .returned v ∧ w'.ownsRow w.heap.size 33 2 v s.seen.length (objCells s.seen) ∧ Below w.heap.size w w' := by
  have hN := names_any h hs
  have HI := hid h
  obtain ⟨mo, wv, ⟨c0, c1, c2, c3, c4, c5, c6⟩, hM, _, _⟩ := h.cells
  have HR := hid hM.rising
  have HW := hid (show ∀ p ∈ s.seen, p.1.size ≤ maxLen from by
    cases mo with
    | none => rw [show s.seen = [] from hM]; intro p hp; cases hp
    | some m => exact hM.2.2)
  clear h hM c0 c1 c2 c3 c4 c5 c6
  unfold ptr at *
  go_enter Try.func40, Try.ntmps40
  go_wp2_with fail
  refine hN.mono ?_
  rintro e w1 ⟨nv, rfl, hr, hb⟩
  generalize hM : s.seen = M at *
  generalize hn : M.length = n at *
  have HN := hid hn
  have HM := hid hM
  have H1 := hid hr
  have H2 := hid hb
  have form := row_form hr
  clear hr hb hN hn hM
  rcases form with ⟨rfl, rfl, hx⟩ | ⟨g, cap, rfl, hg, hg2, hg3, hg4, hc⟩
  · have HX := hid hx
    clear hx
    go_wp2_with fail
    refine wp_loop_rounds 1 ?_
    rw [rounds_succ]
    go_wp2_with fail
    go_ret
    have : M = [] := List.eq_nil_of_length_eq_zero HN.out
    refine ⟨.slice none 0 0, rfl, ?_, H2.out⟩
    rw [HM.out, this]
    exact World.ownsRow_nil _ _ _ _
  · have HC := hid hc
    clear hc
    go_wp2_with fail
    go_loopg [3, 11] n (fun gk s3 s11 wx => ∃ k : Nat, k + gk = n ∧ s11 = .int .i64 (k : Int) ∧ wx.ownsRow w1.heap.size 33 2 s3 k (objCells (M.take k)) ∧ Below w1.heap.size w1 wx)
    case atStart => exact ⟨0, by omega, rfl, World.ownsRow_nil _ _ _ _, Below.refl _ _⟩
    case round =>
      obtain ⟨k, hk, rfl, hrow, hbw⟩ := hrel
      have HB : Hid (Below w.heap.size w wr) := hid (H2.out.trans (hbw.mono H2.out.size))
      have HRow := hid hrow
      have HBw := hid hbw
      cases gk with
      | zero =>
        have q1 : ¬ ((k : Int) < (n : Int)) := by omega
        have hkn : k = n := by omega
        clear hrow hbw
        go_wp2_with fail
        go_ret
        have := HRow.out
        rw [hkn, List.take_of_length_le (by rw [HN.out]; exact Nat.le_refl _)] at this
        refine ⟨u3, rfl, ?_, HB.out⟩
        rw [HM.out, HN.out]
        exact row_base this H2.out.size
      | succ g1 =>
        have q1 : (k : Int) < (n : Int) := by omega
        have hk' : k < M.length := by rw [HN.out]; omega
        obtain ⟨p, hp⟩ : ∃ p, M[k]? = some p := ⟨_, List.getElem?_eq_getElem hk'⟩
        have hpm : p ∈ M := List.mem_of_getElem? hp
        have cn : wr.cell? ⟨g, k, none⟩ = some (.string p.1) := by rw [hbw.cell (p := ⟨g, k, none⟩) hg]; exact HC.out k _ (nameCells_get M k p hp)
        have hI := HI.out.below HB.out
        obtain ⟨mo, wv, ⟨c0, c1, c2, c3, c4, c5, c6⟩, hMV, _, _⟩ := hI.cells
        have hlk := hMV.look (HW.out p hpm) false
        rw [HM.out, (look_some HR.out).2 (show (p.1, p.2) ∈ M from hpm), cv_some] at hlk
        simp only [Bool.false_eq_true, if_false] at hlk
        have HT : Hid (objCells (M.take (k + 1)) = objCells (M.take k) ++ [.string p.1, .string p.2]) := hid (by
          rw [List.take_add_one, hp]; exact objCells_snoc _ _)
        have hz : w1.heap.size ≤ wr.heap.size := hbw.size
        have hfl := fun W => fld67 W true p.2
        clear hp hpm hI hMV hbw hk'
        go_wp2_with (at_builtin; refine wpList_app el28 rfl _ _ rfl w1.heap.size _ k _ rfl (hrow.alloc _) ⟨wr.heap.size, 0, none⟩ 1 1 [.string p.1, .string p.2] rfl (by decide) rfl (new_cells wr [.string p.1, .string p.2] 33) (by simp [Value.oneCell']) (by omega) (by simp; omega) ?_; intro g' cap' w' hr' hgr')
        go_roundg g1
        case measure => omega
        case rel =>
          refine ⟨k + 1, by omega, by first | rfl | simp, ?_, ?_⟩
          · rw [HT.out]; exact hr'
          · exact grown_below ((HBw.out).alloc hz _) (HRow.out.alloc _) hgr' (Nat.le_refl _) (by simp; omega)
end Go.Proofs.Ytgdiaflikfdnaaa
