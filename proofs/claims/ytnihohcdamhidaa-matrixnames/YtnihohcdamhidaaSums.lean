/- Lists of rows of noughts; sums of products by a closure over one field. -/
import Derived.Test.YtnihohcdamhidaaNewM
namespace Go.Proofs.Ytnihohcdamhidaa
open Go.RowKit
theorem infoRow : (Try.prog.info? 32).map (fun i => (i.zero, i.size, i.bytes)) = some (some (.slice none 0 0), 1, 24) := by kernel_rfl
theorem infoU8 : (Try.prog.info? 5).map (fun i => (i.zero, i.size, i.bytes)) = some (some (.int .u8 0), 1, 1) := by kernel_rfl
theorem makes_u8 (n : Nat) (hn : n ≤ 1000000) (w : World) : (Instr.makeSlice 32 (.int .i64 (n : Int)) (.int .i64 (n : Int))).run Try.prog w = .ok (.slice (some ⟨w.heap.size, 0, none⟩) n n) (w.alloc (.cells (U8s (List.replicate n 0)) 5)) := by
  have hinfo := infoU8
  cases hi : Try.prog.info? 5 with
  | none => rw [hi] at hinfo; simp at hinfo
  | some i =>
    rw [hi] at hinfo
    simp only [Option.map_some, Option.some.injEq, Prod.mk.injEq] at hinfo
    obtain ⟨h1, h2, h3⟩ := hinfo
    rw [run_make w 32 5 i (.int .u8 0) Try.underlying32 hi h1 .i64 .i64 (n : Int) (n : Int) (by omega) (Int.le_refl _) (by rw [h3]; omega) (by omega)]
    have e : madeCells (Value.int .u8 0).cells (n * 1) = U8s (List.replicate n 0) := by
      apply Array.toList_inj.1
      have hz : (Value.int .u8 0).cells = #[.int .u8 0] := rfl
      rw [hz, Nat.mul_one]
      apply List.ext_getElem
      · simp [madeCells, U8s]
      · intro k h1 h2
        simp [madeCells, U8s, Nat.mod_one]
    rw [h2, Int.toNat_natCast, e]
theorem makes_rows (n : Nat) (hn : n ≤ 1000000) (w : World) : (Instr.makeSlice 23 (.int .i64 (n : Int)) (.int .i64 (n : Int))).run Try.prog w = .ok (.slice (some ⟨w.heap.size, 0, none⟩) n n) (w.alloc (.cells (tops n (fun _ => 0) []) 32)) := by
  have hinfo := infoRow
  cases hi : Try.prog.info? 32 with
  | none => rw [hi] at hinfo; simp at hinfo
  | some i =>
    rw [hi] at hinfo
    simp only [Option.map_some, Option.some.injEq, Prod.mk.injEq] at hinfo
    obtain ⟨h1, h2, h3⟩ := hinfo
    rw [run_make w 23 32 i (.slice none 0 0) Try.underlying23 hi h1 .i64 .i64 (n : Int) (n : Int) (by omega) (Int.le_refl _) (by rw [h3]; omega) (by omega)]
    have e : madeCells (Value.slice none 0 0).cells (n * 1) = tops n (fun _ => 0) [] := by
      apply Array.toList_inj.1
      have hz : (Value.slice none 0 0).cells = #[.slice none 0 0] := rfl
      rw [hz, Nat.mul_one]
      apply List.ext_getElem
      · simp [madeCells, tops]
      · intro k h1 h2
        simp [madeCells, tops, Nat.mod_one]
    rw [h2, Int.toNat_natCast, e]
theorem RowsAt.top {base T n : Nat} {w : World} {rs : List (List Nat)} (h : RowsAt base T n w rs) (k : Nat) (hk : k < n) : T < w.heap.size ∧ (∃ v, w.cell? ⟨T, k, none⟩ = some v) ∧ w.frozen? ⟨T, k, none⟩ = false := by
  obtain ⟨h1, h2, B, h3, h4⟩ := h
  exact ⟨h3.lt, ⟨_, by rw [h3.cell, tops_get _ _ _ _ hk]⟩, h3.frozen k⟩
set_option maxRecDepth 20000 in
theorem noughts_any (r c : Nat) (hr : r ≤ 1000000) (hc : c ≤ 1000000) (w : World) :
    Calls Try.prog 33 #[.int .i64 (r : Int), .int .i64 (c : Int)] w fun e w' => e = .returned (.slice (some ⟨w.heap.size, 0, none⟩) r r) ∧ RowsAt w.heap.size w.heap.size r w' (List.replicate r (List.replicate c 0)) ∧ Below w.heap.size w w' := by
  have hmk := makes_rows r hr
  go_enter Try.func33, Try.ntmps33
  go_wp2_with fail
  go_loopw [11] (fun vi wr => ∃ k : Nat, k ≤ r ∧ vi = .int .i64 (k : Int) ∧ RowsAt w.heap.size w.heap.size r wr (List.replicate k (List.replicate c 0)) ∧ Below w.heap.size w wr) (fun vi _ => r - (intOf vi).toNat)
  case atStart => exact ⟨0, by omega, rfl, RowsAt.start rfl (Nat.le_refl _), (Below.refl _ _).alloc (Nat.le_refl _) _⟩
  case round =>
    obtain ⟨k, hk, rfl, h1, hb⟩ := hrel
    clear hmk
    have hmk := makes_u8 c hc
    by_cases hlt : k < r
    · obtain ⟨q1, ⟨x, q2⟩, q3⟩ := h1.top k hlt
      have bA : Below wr.heap.size wr (wr.alloc (.cells (U8s (List.replicate c 0)) 5)) := (Below.refl _ _).alloc (Nat.le_refl _) _
      have c1 : (wr.alloc (.cells (U8s (List.replicate c 0)) 5)).cell? ⟨w.heap.size, k, none⟩ = some x := cell_below bA q1 q2
      have f1 : (wr.alloc (.cells (U8s (List.replicate c 0)) 5)).frozen? ⟨w.heap.size, k, none⟩ = false := by
        rw [← q3]; simp only [World.frozen?, bA.block _ q1]
      have HP : Hid (RowsAt w.heap.size w.heap.size r ((wr.alloc (.cells (U8s (List.replicate c 0)) 5)).setCell ⟨w.heap.size, k, none⟩ (.slice (some ⟨wr.heap.size, 0, none⟩) c c)) (List.replicate (k + 1) (List.replicate c 0))) := by
        have := h1.push bA (Nat.le_refl _) hb.size (Has.new wr _ (U8s (List.replicate c 0)) 5 rfl) (fun x hx => by rw [List.eq_of_mem_replicate hx]; decide) (by simp; omega)
        simp only [List.length_replicate] at this
        rw [List.replicate_succ']; exact this
      have hfin : Below w.heap.size w ((wr.alloc (.cells (U8s (List.replicate c 0)) 5)).setCell ⟨w.heap.size, k, none⟩ (.slice (some ⟨wr.heap.size, 0, none⟩) c c)) := (hb.alloc hb.size _).setCell (Nat.le_refl _) _
      rw [World.setCell_alloc_past _ _ _ _ q1] at HP hfin
      clear h1 q2 q3
      have d0 : (k : Int) < (r : Int) := by omega
      go_wp2_with fail
      exact ⟨⟨k + 1, by omega, rfl, HP.out, hfin⟩, by simp [intOf]; omega⟩
    · obtain rfl : k = r := by omega
      go_wp2_with fail
      go_ret
      exact ⟨rfl, h1, hb⟩
/-- the sum of the products of the first k numbers -/
def dotTo (a b : List Nat) : Nat → Nat
  | 0 => 0
  | k + 1 => dotTo a b k ^^^ Fld.mul (a.getD k 0) (b.getD k 0)
def dot (a b : List Nat) : Nat := dotTo a b a.length
theorem dotTo_lt (a b : List Nat) (k : Nat) : dotTo a b k < 256 := by
  induction k with
  | zero => exact (by decide : 0 < 256)
  | succ k ih => exact Fld.xor_lt ih (Fld.mul_lt _ _)
/-- the closure over one field -/
def IsSum (w : World) (v : Value) : Prop := ∃ c f, v = .func (.func 43) #[] #[.pointer (some ⟨c, 0, none⟩)] ∧ Has w c #[.pointer (some ⟨f, 0, none⟩)] 44 ∧ Has w f FC 61
theorem IsSum.below {w w' : World} {v : Value} (h : IsSum w v) (hb : Below w.heap.size w w') : IsSum w' v := by
  obtain ⟨c, f, h1, h2, h3⟩ := h
  exact ⟨c, f, h1, h2.below hb h2.lt, h3.below hb h3.lt⟩
theorem sumOf_any (w : World) : Calls Try.prog 35 #[] w fun e w' => ∃ v, e = .returned v ∧ IsSum w' v ∧ Below w.heap.size w w' := by
  have hmf : ∀ (fn : Fn) (first cap : Array Value) (w : World), (Instr.makeFunc fn first cap).run Try.prog w = .ok (.func fn first cap) w := fun _ _ _ _ => rfl
  go_enter Try.func35, Try.ntmps35
  go_wp2_with fail
  refine (new_any w).mono ?_
  rintro e w1 ⟨rfl, h1, hb⟩
  go_wp2_with fail
  go_ret
  exact ⟨_, rfl, ⟨_, _, rfl, Has.new w1 _ _ 44 rfl, h1.alloc _⟩, hb.alloc hb.size _⟩
set_option maxRecDepth 20000 in
theorem sum_any (c f : Nat) (v1 v2 : Value) (a b : List Nat) (w : World) (h1 : Row8 w v1 a) (h2 : Row8 w v2 b) (hl : a.length ≤ b.length) (hc : Has w c #[.pointer (some ⟨f, 0, none⟩)] 44) (hf : Has w f FC 61) :
    Calls Try.prog 43 #[v1, v2, .pointer (some ⟨c, 0, none⟩)] w fun e w' => e = .returned (.int .u8 ((dot a b : Nat) : Int)) ∧ Below w.heap.size w w' := by
  obtain ⟨a1, c1, rfl, hl1, hx1, hd1⟩ := h1
  obtain ⟨a2, c2, rfl, hl2, hx2, hd2⟩ := h2
  have HD : Hid (dot a b = dotTo a b a.length) := rfl
  generalize hn1 : a.length = n at *
  generalize hn2 : b.length = n2 at *
  go_enter Try.func43, Try.ntmps43
  go_wp2_with fail
  go_loopw [6, 10] (fun vt vi wr => ∃ k : Nat, k ≤ n ∧ vi = .int .i64 (k : Int) ∧ vt = .int .u8 ((dotTo a b k : Nat) : Int) ∧ Below w.heap.size w wr) (fun _ vi _ => n - (intOf vi).toNat)
  case atStart => exact ⟨0, by omega, rfl, rfl, Below.refl _ _⟩
  case round =>
    obtain ⟨k, hk, rfl, rfl, hb⟩ := hrel
    by_cases hlt : k < n
    · obtain ⟨g1, o1, rfl, hg1, hq1⟩ := hd1 (by omega)
      obtain ⟨g2, o2, rfl, hg2, hq2⟩ := hd2 (by omega)
      have k1 := cell_below hb hg1 (hq1 k hlt)
      have k2 := cell_below hb hg2 (hq2 k (by omega))
      have k3 := cell_below hb hc.lt (hc.cell 0)
      have k3' : wr.cell? ⟨c, 0, none⟩ = some (.pointer (some ⟨f, 0, none⟩)) := k3
      have F1 : Hid (Has wr f FC 61) := hf.below hb hf.lt
      have l1 := getD_lt hx1 k
      have l2 := getD_lt hx2 k
      have l3 := dotTo_lt a b k
      have HN : Hid (dotTo a b (k + 1) = dotTo a b k ^^^ Fld.mul (a.getD k 0) (b.getD k 0)) := rfl
      generalize a.getD k 0 = p1 at *
      generalize b.getD k 0 = p2 at *
      generalize dotTo a b k = t at *
      have l4 := Fld.mul_lt p1 p2
      clear hq1 hq2 hd1 hd2 k3
      have d0 : (k : Int) < (n : Int) := by omega
      have d1 : (k : Int) < (n2 : Int) := by omega
      have HS : Hid (∀ W, Below wr.heap.size wr W → Below w.heap.size w W ∧ Has W f FC 61 ∧ W.cell? ⟨g1, o1 + k, none⟩ = some (.int .u8 (p1 : Int)) ∧ W.cell? ⟨g2, o2 + k, none⟩ = some (.int .u8 (p2 : Int)) ∧ W.cell? ⟨c, 0, none⟩ = some (.pointer (some ⟨f, 0, none⟩))) := fun W hW =>
        ⟨belowCall hb hW, F1.out.below hW F1.out.lt, cell_below hW (Nat.lt_of_lt_of_le hg1 hb.size) k1, cell_below hW (Nat.lt_of_lt_of_le hg2 hb.size) k2, cell_below hW (Nat.lt_of_lt_of_le hc.lt hb.size) k3'⟩
      have BR := Below.refl wr.heap.size wr
      clear hx1 hx2 k1 k2 k3' F1
      go_wp2_with fail
      go_region_held3 (fun W => Below wr.heap.size wr W ∧ W.cell? ⟨g1, o1 + k, none⟩ = some (.int .u8 (p1 : Int)) ∧ W.cell? ⟨g2, o2 + k, none⟩ = some (.int .u8 (p2 : Int)) ∧ W.cell? ⟨c, 0, none⟩ = some (.pointer (some ⟨f, 0, none⟩))) (first | exact ⟨BR.drew, (HS.out _ BR.drew).2.2⟩ | exact ⟨hB1, (HS.out _ hB1).2.2⟩ | exact ⟨hB2, (HS.out _ hB2).2.2⟩) (first
        | (go_at_call 29; refine (mul_any _ p1 p2 l1 l2 _ (.inr ⟨f, rfl, (HS.out _ BR.drew).2.1⟩)).mono ?_; rintro e w1 ⟨rfl, hc1⟩; have hB1 := belowCall BR.drew hc1)
        | (go_at_call 31; refine (add_any _ t (Fld.mul p1 p2) l3 l4 _).mono ?_; rintro e w2 ⟨rfl, hc2⟩; have hB2 := belowCall hB1 hc2))
      go_wp2_with fail
      exact ⟨⟨k + 1, by omega, rfl, by rw [HN.out], belowCall hb (by assumption)⟩, by simp [intOf]; omega⟩
    · obtain rfl : k = n := by omega
      go_wp2_with fail
      go_ret
      exact ⟨by rw [HD.out]; rfl, hb⟩
theorem fill_step (L : List Nat) (k : Nat) (hk : k < L.length) : (L.take k ++ List.replicate (L.length - k) 0).set k (L.getD k 0) = L.take (k + 1) ++ List.replicate (L.length - (k + 1)) 0 := by
  have e1 : L.take (k + 1) = L.take k ++ [L[k]] := List.take_succ_eq_append_getElem hk
  rw [List.set_append_right _ _ (by simp; omega), e1, List.append_assoc]
  have h1 : k - (L.take k).length = 0 := by simp; omega
  rw [h1, show L.length - k = (L.length - (k + 1)) + 1 by omega, List.replicate_succ, List.set_cons_zero, List.getD_eq_getElem?_getD, List.getElem?_eq_getElem hk]
  rfl
set_option maxRecDepth 20000 in
theorem sums_any (v vl fn : Value) (m : List (List Nat)) (l : List Nat) (w : World) (h1 : Mat w v m) (h2 : Row8 w vl l) (hf : IsSum w fn) (hm : m.length ≤ 1000000) (hl : ∀ j, j < m.length → (m.getD j []).length ≤ l.length) :
    Calls Try.prog 34 #[v, vl, fn] w fun e w' => e = .returned (.slice (some ⟨w.heap.size, 0, none⟩) m.length m.length) ∧ Has w' w.heap.size (U8s (m.map fun r => dot r l)) 5 ∧ Below w.heap.size w w' := by
  obtain ⟨a, cap, rfl, _, hrows⟩ := h1
  obtain ⟨c, f, rfl, hc, hff⟩ := hf
  have hmk := makes_u8 m.length hm
  have HE : Hid (U8s (m.map fun r => dot r l) = U8s ((m.map fun r => dot r l).take m.length ++ List.replicate (m.length - m.length) 0)) := by
    unfold Hid; rw [List.take_of_length_le (by simp)]; simp
  have HZ : Hid (m.length = m.length) := rfl
  generalize hn : m.length = n at *
  go_enter Try.func34, Try.ntmps34
  go_wp2_with fail
  go_loopw [15] (fun vi wr => ∃ k : Nat, k ≤ n ∧ vi = .int .i64 (k : Int) ∧ Has wr w.heap.size (U8s ((m.map fun r => dot r l).take k ++ List.replicate (n - k) 0)) 5 ∧ Below w.heap.size w wr) (fun vi _ => n - (intOf vi).toNat)
  case atStart => exact ⟨0, by omega, rfl, by simpa using Has.new w _ _ 5 rfl, (Below.refl _ _).alloc (Nat.le_refl _) _⟩
  case round =>
    obtain ⟨k, hk, rfl, hh, hb⟩ := hrel
    clear hmk
    by_cases hlt : k < n
    · obtain ⟨g, o, rfl, hg, hd⟩ := hrows (by omega)
      obtain ⟨r, k1, hr⟩ := hd k hlt
      replace k1 := cell_below hb hg k1
      have d0 : (k : Int) < (n : Int) := by omega
      have hr' : Hid (Row8 wr r (m.getD k [])) := hr.below hb
      have hl' : Hid (Row8 wr vl l) := h2.below hb
      have hcf : Hid (Has wr c #[.pointer (some ⟨f, 0, none⟩)] 44 ∧ Has wr f FC 61) := ⟨hc.below hb hc.lt, hff.below hb hff.lt⟩
      go_wp2_with fail
      refine (sum_any c f r vl (m.getD k []) l wr hr'.out hl'.out (hl k hlt) hcf.out.1 hcf.out.2).mono ?_
      rintro e w1 ⟨rfl, hb1⟩
      generalize hdv : dot (m.getD k []) l = dv
      have hh1 := hh.below hb1 hh.lt
      have k2 := (hh1.cell k).trans (U8s_get _ k (by simp; omega))
      have k3 := hh1.frozen k
      have HF : Hid (Has (w1.setCell ⟨w.heap.size, k, none⟩ (.int .u8 (dv : Int))) w.heap.size (U8s ((m.map fun r => dot r l).take (k + 1) ++ List.replicate (n - (k + 1)) 0)) 5) := by
        have := hh1.set k (.int .u8 (dv : Int))
        rw [U8s_set] at this
        have e := fill_step (m.map fun r => dot r l) k (by simp; omega)
        rw [List.length_map, hn] at e
        rw [show (m.map fun r => dot r l).getD k 0 = dv by rw [← hdv]; simp [List.getD_eq_getElem?_getD, List.getElem?_eq_getElem (show k < m.length by omega)]] at e
        rw [e] at this; exact this
      have hfin : Below w.heap.size w (w1.setCell ⟨w.heap.size, k, none⟩ (.int .u8 (dv : Int))) := (belowCall hb hb1).setCell (Nat.le_refl _) _
      clear hh hh1
      go_wp2_with fail
      exact ⟨⟨k + 1, by omega, rfl, HF.out, hfin⟩, by simp [intOf]; omega⟩
    · obtain rfl : k = n := by omega
      go_wp2_with fail
      go_ret
      exact ⟨rfl, by rw [HE.out]; exact hh, hb⟩
end Go.Proofs.Ytnihohcdamhidaa
