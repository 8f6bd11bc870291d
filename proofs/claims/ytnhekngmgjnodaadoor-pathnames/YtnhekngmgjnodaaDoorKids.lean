/- Who stands in a directory: the program's and the document's. -/
import Derived.Test.YtnhekngmgjnodaaDoorGrow
import Derived.Test.YtnhekngmgjnodaaDoorMore
namespace Go.Proofs.YtnhekngmgjnodaaDoor
open Go.RowKit
open Pa
set_option linter.unusedVariables false
theorem above_lt256 {s : ByteArray} {u : List Nat} (h : above (bs s) = some u) : ∀ x ∈ u, x < 256 := by
  obtain ⟨r, h1, _⟩ := above_some.1 h
  intro x hx
  exact bs_lt s x (by rw [h1]; simp [hx])
theorem abU_some {s : ByteArray} {u : List Nat} (h : above (bs s) = some u) : abU s = ofBs u ∧ abB s = true := by
  unfold abU abB; rw [h]; exact ⟨rfl, rfl⟩
theorem abU_none {s : ByteArray} (h : above (bs s) = none) : abU s = ⟨#[]⟩ ∧ abB s = false := by
  unfold abU abB; rw [h]; exact ⟨rfl, rfl⟩
/-- does it stand there? -/
def kidF (d : ByteArray) (x : Fl) : Bool := kidB (bs d) (fi x)
theorem kid_yes {d : ByteArray} {x : Fl} (h : kidF d x = true) : (abB x.path = true ∧ ¬ d.size = 0 ∧ abU x.path = d) ∨ (abB x.path = false ∧ d.size = 0 ∧ abU x.path = d) := by
  unfold kidF kidB at h
  cases ha : above (fi x).path with
  | none =>
    rw [ha] at h
    have hd : bs d = [] := by simpa using h
    have hz := (bs_nil d).1 hd
    obtain ⟨h1, h2⟩ := abU_none (s := x.path) ha
    exact .inr ⟨h2, hz, h1.trans ((empty_iff d).2 hz).symm⟩
  | some u =>
    rw [ha] at h
    have hd : bs d ≠ [] ∧ u = bs d := by simpa using h
    obtain ⟨h1, h2⟩ := abU_some (s := x.path) ha
    exact .inl ⟨h2, fun h => hd.1 ((bs_nil d).2 h), by rw [h1, hd.2, ofBs_bs]⟩
theorem kid_no {d : ByteArray} {x : Fl} (h : kidF d x = false) : (abB x.path = true ∧ (d.size = 0 ∨ abU x.path ≠ d)) ∨ (abB x.path = false ∧ ¬ d.size = 0) := by
  unfold kidF kidB at h
  cases ha : above (fi x).path with
  | none =>
    rw [ha] at h
    have hd : ¬ bs d = [] := by simpa using h
    exact .inr ⟨(abU_none (s := x.path) ha).2, fun h => hd ((bs_nil d).2 h)⟩
  | some u =>
    rw [ha] at h
    obtain ⟨h1, h2⟩ := abU_some (s := x.path) ha
    refine .inl ⟨h2, ?_⟩
    by_cases hz : d.size = 0
    · exact .inl hz
    · right
      intro he
      have : bs d ≠ [] ∧ u = bs d := ⟨fun h => hz ((bs_nil d).1 h), by rw [← he, h1, bs_ofBs u (above_lt256 (s := x.path) ha)]⟩
      simp [this] at h
/-- the first of those that stand there -/
def kidsK (l : List Fl) (d : ByteArray) (k : Nat) : List Nat := (List.range k).filter fun i => match l[i]? with
  | some f => kidF d f
  | none => false
theorem kidsK_yes {l : List Fl} {d : ByteArray} {k : Nat} (hk : k < l.length) (h : kidF d (l.getD k default) = true) : kidsK l d (k + 1) = kidsK l d k ++ [k] := by
  unfold kidsK
  rw [List.range_succ, List.filter_append]
  congr 1
  rw [List.filter_cons, get_of default hk]
  show (if kidF d (l.getD k default) = true then k :: List.filter _ [] else List.filter _ []) = [k]
  rw [if_pos h]; rfl
theorem kidsK_no {l : List Fl} {d : ByteArray} {k : Nat} (hk : k < l.length) (h : kidF d (l.getD k default) = false) : kidsK l d (k + 1) = kidsK l d k := by
  unfold kidsK
  rw [List.range_succ, List.filter_append]
  conv => rhs; rw [← List.append_nil (List.filter _ _)]
  congr 1
  rw [List.filter_cons, get_of default hk]
  show (if kidF d (l.getD k default) = true then k :: List.filter _ [] else List.filter _ []) = []
  rw [if_neg (by rw [h]; decide)]; rfl
def kidsF (l : List Fl) (d : ByteArray) : List Nat := kidsK l d l.length
theorem kidsF_is (l : List Fl) (d : ByteArray) : kidsF l d = kids (l.map fi) (bs d) := by
  unfold kidsF kidsK kids
  rw [List.length_map]
  congr 1
  funext i
  rw [List.getElem?_map]
  cases l[i]? with
  | none => rfl
  | some f => rfl
theorem kidsK_len (l : List Fl) (d : ByteArray) (k : Nat) : (kidsK l d k).length ≤ k := by
  unfold kidsK
  have := List.length_filter_le (fun i => match l[i]? with | some f => kidF d f | none => false) (List.range k)
  rw [List.length_range] at this
  exact this
set_option maxRecDepth 20000 in
set_option maxHeartbeats 8000000 in
theorem kids_any (l : List Fl) (A : Option Addr) (c : Nat) (d : ByteArray) (hs : Small l) (w : World) (hl : Fs w A l) :
    Calls Tryd.prog 10 #[.slice A l.length c, .string d] w fun e w' => ∃ v, e = .returned v ∧ w'.ownsRow w.heap.size 3 1 v (kidsF l d).length ((kidsF l d).map nI) ∧ Below w.heap.size w w' := by
  have HL := hid hl
  have HS := hid hs
  obtain ⟨n, hnn⟩ : ∃ n, n = l.length := ⟨_, rfl⟩
  have HN := hid hnn
  have hn3 : n ≤ 300 := by rw [hnn]; exact hs.1
  rw [← hnn]
  clear hl hs hnn
  have hem : d.toList.isEmpty = decide (d.size = 0) := toLe d
  go_enter Tryd.func10, Tryd.ntmps10
  go_wp2_with fail
  go_loopw [5, 6, 7, 8, 9, 12] (fun v5 _ _ _ _ v12 wr => ∃ (k m : Nat) (B : Option Addr) (q : Nat), k ≤ n ∧ v12 = .int .i64 (k : Int) ∧ v5 = .slice B m q ∧ Hid (m = (kidsK l d k).length) ∧ Hid (wr.ownsRow w.heap.size 3 1 (.slice B m q) m ((kidsK l d k).map nI)) ∧ Hid (Below w.heap.size w wr)) (fun _ _ _ _ _ v12 _ => n - (intOf v12).toNat)
  case atStart => exact ⟨0, 0, none, 0, Nat.zero_le _, rfl, rfl, hid rfl, hid (World.ownsRow_nil _ _ _ _), hid (Below.refl _ _)⟩
  case round =>
    obtain ⟨k, m, B, q, hk, rfl, rfl, HM, HR, HB⟩ := hrel
    by_cases hlt : k < n
    · have hkl : k < l.length := by rw [← HN.out]; exact hlt
      obtain ⟨g, o, rfl, hg, c0, c1, c2⟩ := fs_cell HL.out HB.out hkl
      have hpz := (HS.out.2 _ (getF_mem hkl)).1
      have i1 : (k : Int) < (n : Int) := by omega
      have i0 : (0 : Int) ≤ (k : Int) := by omega
      have wk : IntKind.i64.wrap ((k : Int) + 1) = ((k + 1 : Nat) : Int) := by rw [IntKind.wrap_i64]; omega
      have hm3 := kidsK_len l d k
      rw [← HM.out] at hm3
      have HY := hid (fun h => kidsK_yes (d := d) hkl h)
      have HNo := hid (fun h => kidsK_no (d := d) hkl h)
      have hyes := fun h => kid_yes (d := d) (x := l.getD k default) h
      have hno := fun h => kid_no (d := d) (x := l.getD k default) h
      generalize kidF d (l.getD k default) = r at *
      have C1 := fun W => ahead_any (l.getD k default).path W (by omega)
      generalize (l.getD k default).path = x0 at *
      generalize (l.getD k default).dir = x1 at *
      generalize (l.getD k default).data = x2 at *
      have hb3 : Below wr.heap.size wr (wr.alloc (.cells #[.string x0, .bool x1, .string x2] 38)) := (Below.refl _ _).alloc (Nat.le_refl _) _
      have HR3 := hid (own_below HR.out hb3 (Nat.le_refl _))
      have HB3 := hid (HB.out.trans (hb3.mono HB.out.size))
      clear hb3
      have hud := toLb (s := abU x0) (t := d)
      generalize abU x0 = u at *
      generalize abB x0 = b at *
      go_wp2_with fail
      refine (C1 _).mono ?_
      rintro e w2 ⟨rfl, rfl⟩
      obtain ⟨wz, hwz⟩ : ∃ wz, wz = wr.alloc (.cells #[.string x0, .bool x1, .string x2] 38) := ⟨_, rfl⟩
      rw [← hwz] at HR3 HB3 ⊢
      clear hwz
      cases r with
      | true =>
        have HS2 := hid (HY.out rfl)
        obtain ⟨A2, c2', w3, hrun, hown, hbl⟩ := grow_is HR3.out k (by omega) HB3.out.size
        rw [← HS2.out] at hown
        have HRun := hid hrun
        have HOwn := hid hown
        have HN2 : Hid (m + 1 = (kidsK l d (k + 1)).length) := hid (by rw [HS2.out, List.length_append, ← HM.out]; rfl)
        have HB2 := hid (HB3.out.trans hbl)
        clear hrun hown hbl hno
        rcases hyes rfl with ⟨rfl, hd, hu⟩ | ⟨rfl, hd, hu⟩
        · clear hyes
          rw [decide_eq_true hu] at hud
          rw [decide_eq_false hd] at hem
          go_wp2_with (at_builtin; go_loud (refine wpList_val rfl (rn_app27 rfl rfl rfl rfl HRun.out) ?_))
          go_roundw
          case rel => exact ⟨k + 1, m + 1, A2, c2', by omega, by rfl, rfl, HN2, HOwn, HB2⟩
          case measure => first | (simp [intOf]; done) | (simp [intOf]; omega)
        · clear hyes
          rw [decide_eq_true hu] at hud
          rw [decide_eq_true hd] at hem
          go_wp2_with (at_builtin; go_loud (refine wpList_val rfl (rn_app27 rfl rfl rfl rfl HRun.out) ?_))
          go_roundw
          case rel => exact ⟨k + 1, m + 1, A2, c2', by omega, by rfl, rfl, HN2, HOwn, HB2⟩
          case measure => first | (simp [intOf]; done) | (simp [intOf]; omega)
      | false =>
        have HS2 := hid (HNo.out rfl)
        have HN2 : Hid (m = (kidsK l d (k + 1)).length) := hid (by rw [HS2.out]; exact HM.out)
        have HOwn : Hid (wz.ownsRow w.heap.size 3 1 (.slice B m q) m ((kidsK l d (k + 1)).map nI)) := hid (by rw [HS2.out]; exact HR3.out)
        clear hyes
        by_cases hu : u = d
        · rw [decide_eq_true hu] at hud
          rcases hno rfl with ⟨rfl, hd | hd⟩ | ⟨rfl, hd⟩
          · clear hno
            rw [decide_eq_true hd] at hem
            go_wp2_with fail
            go_roundw
            case rel => exact ⟨k + 1, m, B, q, by omega, by rfl, rfl, HN2, HOwn, HB3⟩
            case measure => first | (simp [intOf]; done) | (simp [intOf]; omega)
          · exact absurd hu hd
          · clear hno
            rw [decide_eq_false hd] at hem
            go_wp2_with fail
            go_roundw
            case rel => exact ⟨k + 1, m, B, q, by omega, by rfl, rfl, HN2, HOwn, HB3⟩
            case measure => first | (simp [intOf]; done) | (simp [intOf]; omega)
        · rw [decide_eq_false hu] at hud
          clear hno
          go_wp2_with fail
          go_roundw
          case rel => exact ⟨k + 1, m, B, q, by omega, by rfl, rfl, HN2, HOwn, HB3⟩
          case measure => first | (simp [intOf]; done) | (simp [intOf]; omega)
    · obtain rfl : n = k := by omega
      have j1 : ¬ ((n : Int) < (n : Int)) := by omega
      have hm2 : m = (kidsF l d).length := by rw [HM.out]; unfold kidsF; rw [← HN.out]
      have hr2 := HR.out
      rw [show kidsK l d n = kidsF l d by unfold kidsF; rw [← HN.out]] at hr2
      have HR2 := hid hr2
      have HM2 := hid hm2
      clear hr2 hm2 HR
      go_wp2_with fail
      go_ret
      exact ⟨_, rfl, by rw [← HM2.out]; exact HR2.out, HB.out⟩
set_option maxRecDepth 20000 in
set_option maxHeartbeats 8000000 in
theorem refKids_any (l : List Fl) (A : Option Addr) (c : Nat) (d : ByteArray) (hs : Small l) (w : World) (hl : Fs w A l) :
    Calls Tryd.prog 11 #[.slice A l.length c, .string d] w fun e w' => ∃ v, e = .returned v ∧ w'.ownsRow w.heap.size 3 1 v (kidsF l d).length ((kidsF l d).map nI) ∧ Below w.heap.size w w' := by
  have HL := hid hl
  have HS := hid hs
  obtain ⟨n, hnn⟩ : ∃ n, n = l.length := ⟨_, rfl⟩
  have HN := hid hnn
  have hn3 : n ≤ 300 := by rw [hnn]; exact hs.1
  rw [← hnn]
  clear hl hs hnn
  have hem : d.toList.isEmpty = decide (d.size = 0) := toLe d
  go_enter Tryd.func11, Tryd.ntmps11
  go_wp2_with fail
  go_loopw [5, 6, 7, 8] (fun v5 v6 _ _ wr => ∃ (k m : Nat) (B : Option Addr) (q : Nat), k ≤ n ∧ v6 = .int .i64 (k : Int) ∧ v5 = .slice B m q ∧ Hid (m = (kidsK l d k).length) ∧ Hid (wr.ownsRow w.heap.size 3 1 (.slice B m q) m ((kidsK l d k).map nI)) ∧ Hid (Below w.heap.size w wr)) (fun _ v6 _ _ _ => n - (intOf v6).toNat)
  case atStart => exact ⟨0, 0, none, 0, Nat.zero_le _, rfl, rfl, hid rfl, hid (World.ownsRow_nil _ _ _ _), hid (Below.refl _ _)⟩
  case round =>
    obtain ⟨k, m, B, q, hk, rfl, rfl, HM, HR, HB⟩ := hrel
    by_cases hlt : k < n
    · have hkl : k < l.length := by rw [← HN.out]; exact hlt
      obtain ⟨g, o, rfl, hg, c0, c1, c2⟩ := fs_cell HL.out HB.out hkl
      have hpz := (HS.out.2 _ (getF_mem hkl)).1
      have i1 : (k : Int) < (n : Int) := by omega
      have i0 : (0 : Int) ≤ (k : Int) := by omega
      have wk : IntKind.i64.wrap ((k : Int) + 1) = ((k + 1 : Nat) : Int) := by rw [IntKind.wrap_i64]; omega
      have hm3 := kidsK_len l d k
      rw [← HM.out] at hm3
      have HY := hid (fun h => kidsK_yes (d := d) hkl h)
      have HNo := hid (fun h => kidsK_no (d := d) hkl h)
      have hyes := fun h => kid_yes (d := d) (x := l.getD k default) h
      have hno := fun h => kid_no (d := d) (x := l.getD k default) h
      generalize kidF d (l.getD k default) = r at *
      have C1 := fun W => refAbove_any (l.getD k default).path W (by omega)
      generalize (l.getD k default).path = x0 at *
      have HR3 := HR
      have HB3 := HB
      have hud := toLb (s := abU x0) (t := d)
      generalize abU x0 = u at *
      generalize abB x0 = b at *
      go_wp2_with fail
      refine (C1 _).mono ?_
      rintro e w2 ⟨rfl, rfl⟩
      obtain ⟨wz, hwz⟩ : ∃ wz, wz = w2 := ⟨_, rfl⟩
      rw [← hwz] at HR3 HB3 ⊢
      clear hwz
      cases r with
      | true =>
        have HS2 := hid (HY.out rfl)
        obtain ⟨A2, c2', w3, hrun, hown, hbl⟩ := grow_is HR3.out k (by omega) HB3.out.size
        rw [← HS2.out] at hown
        have HRun := hid hrun
        have HOwn := hid hown
        have HN2 : Hid (m + 1 = (kidsK l d (k + 1)).length) := hid (by rw [HS2.out, List.length_append, ← HM.out]; rfl)
        have HB2 := hid (HB3.out.trans hbl)
        clear hrun hown hbl hno
        rcases hyes rfl with ⟨rfl, hd, hu⟩ | ⟨rfl, hd, hu⟩
        · clear hyes
          rw [decide_eq_true hu] at hud
          rw [decide_eq_false hd] at hem
          go_wp2_with (at_builtin; go_loud (refine wpList_val rfl (rn_app27 rfl rfl rfl rfl HRun.out) ?_))
          go_roundw
          case rel => exact ⟨k + 1, m + 1, A2, c2', by omega, by rfl, rfl, HN2, HOwn, HB2⟩
          case measure => first | (simp [intOf]; done) | (simp [intOf]; omega)
        · clear hyes
          rw [decide_eq_true hu] at hud
          rw [decide_eq_true hd] at hem
          go_wp2_with (at_builtin; go_loud (refine wpList_val rfl (rn_app27 rfl rfl rfl rfl HRun.out) ?_))
          go_roundw
          case rel => exact ⟨k + 1, m + 1, A2, c2', by omega, by rfl, rfl, HN2, HOwn, HB2⟩
          case measure => first | (simp [intOf]; done) | (simp [intOf]; omega)
      | false =>
        have HS2 := hid (HNo.out rfl)
        have HN2 : Hid (m = (kidsK l d (k + 1)).length) := hid (by rw [HS2.out]; exact HM.out)
        have HOwn : Hid (wz.ownsRow w.heap.size 3 1 (.slice B m q) m ((kidsK l d (k + 1)).map nI)) := hid (by rw [HS2.out]; exact HR3.out)
        clear hyes
        by_cases hu : u = d
        · rw [decide_eq_true hu] at hud
          rcases hno rfl with ⟨rfl, hd | hd⟩ | ⟨rfl, hd⟩
          · clear hno
            rw [decide_eq_true hd] at hem
            go_wp2_with fail
            go_roundw
            case rel => exact ⟨k + 1, m, B, q, by omega, by rfl, rfl, HN2, HOwn, HB3⟩
            case measure => first | (simp [intOf]; done) | (simp [intOf]; omega)
          · exact absurd hu hd
          · clear hno
            rw [decide_eq_false hd] at hem
            go_wp2_with fail
            go_roundw
            case rel => exact ⟨k + 1, m, B, q, by omega, by rfl, rfl, HN2, HOwn, HB3⟩
            case measure => first | (simp [intOf]; done) | (simp [intOf]; omega)
        · rw [decide_eq_false hu] at hud
          rcases hno rfl with ⟨rfl, hd | hd⟩ | ⟨rfl, hd⟩
          · clear hno
            rw [decide_eq_true hd] at hem
            go_wp2_with fail
            go_roundw
            case rel => exact ⟨k + 1, m, B, q, by omega, by rfl, rfl, HN2, HOwn, HB3⟩
            case measure => first | (simp [intOf]; done) | (simp [intOf]; omega)
          · clear hno
            cases hz : decide (d.size = 0) with
            | true =>
              rw [hz] at hem
              go_wp2_with fail
              go_roundw
              case rel => exact ⟨k + 1, m, B, q, by omega, by rfl, rfl, HN2, HOwn, HB3⟩
              case measure => first | (simp [intOf]; done) | (simp [intOf]; omega)
            | false =>
              rw [hz] at hem
              go_wp2_with fail
              go_roundw
              case rel => exact ⟨k + 1, m, B, q, by omega, by rfl, rfl, HN2, HOwn, HB3⟩
              case measure => first | (simp [intOf]; done) | (simp [intOf]; omega)
          · clear hno
            rw [decide_eq_false hd] at hem
            go_wp2_with fail
            go_roundw
            case rel => exact ⟨k + 1, m, B, q, by omega, by rfl, rfl, HN2, HOwn, HB3⟩
            case measure => first | (simp [intOf]; done) | (simp [intOf]; omega)
    · obtain rfl : n = k := by omega
      have j1 : ¬ ((n : Int) < (n : Int)) := by omega
      have hm2 : m = (kidsF l d).length := by rw [HM.out]; unfold kidsF; rw [← HN.out]
      have hr2 := HR.out
      rw [show kidsK l d n = kidsF l d by unfold kidsF; rw [← HN.out]] at hr2
      have HR2 := hid hr2
      have HM2 := hid hm2
      clear hr2 hm2 HR
      go_wp2_with fail
      go_ret
      exact ⟨_, rfl, by rw [← HM2.out]; exact HR2.out, HB.out⟩
end Go.Proofs.YtnhekngmgjnodaaDoor
