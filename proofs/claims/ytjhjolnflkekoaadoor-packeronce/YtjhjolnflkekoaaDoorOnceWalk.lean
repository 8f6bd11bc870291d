/- The walk of PackerOnce. -/
import Derived.Test.YtjhjolnflkekoaaDoorNames
import Derived.Test.YtjhjolnflkekoaaDoorOnceNum
import Derived.BigQuiet
import Derived.Deep.Cut
import Derived.Deep.CutRange
namespace Go.Proofs.YtjhjolnflkekoaaDoor
open Go.RowKit Go.Maps
open Pk
set_option linter.unusedVariables false
def oV10 (g n cap i a b m : Nat) (D B : ByteArray) : Nat → Value
  | 44 => .slice (some ⟨g, 0, none⟩) n cap
  | 49 => .slice (some ⟨g, 0, none⟩) n cap
  | 57 => .slice (some ⟨g, 0, none⟩) n cap
  | 63 => .slice (some ⟨g, 0, none⟩) n cap
  | 72 => .slice (some ⟨g, 0, none⟩) n cap
  | 45 => .int .i64 (i : Int)
  | 50 => .int .i64 (i : Int)
  | 58 => .int .i64 (i : Int)
  | 64 => .int .i64 (i : Int)
  | 73 => .int .i64 (i : Int)
  | 46 => .pointer (some ⟨g, i * 4, none⟩)
  | 51 => .pointer (some ⟨g, i * 4, none⟩)
  | 52 => .pointer (some ⟨g, i * 4, none⟩)
  | 59 => .pointer (some ⟨g, i * 4, none⟩)
  | 65 => .pointer (some ⟨g, i * 4, none⟩)
  | 74 => .pointer (some ⟨g, i * 4, none⟩)
  | 47 => .pointer (some ⟨g, i * 4 + 1, none⟩)
  | 48 => .string D
  | 54 => .string D
  | 53 => .string B
  | 55 => .bool false
  | 56 => .bool false
  | 69 => .bool false
  | 70 => .bool false
  | 71 => .bool false
  | 78 => .bool false
  | 79 => .bool false
  | 60 => .pointer (some ⟨g, i * 4 + 2, none⟩)
  | 75 => .pointer (some ⟨g, i * 4 + 2, none⟩)
  | 61 => .slice (some ⟨a, 0, none⟩) m m
  | 76 => .slice (some ⟨a, 0, none⟩) m m
  | 62 => .int .i64 (m : Int)
  | 68 => .int .i64 (m : Int)
  | 77 => .int .i64 (m : Int)
  | 66 => .pointer (some ⟨g, i * 4 + 3, none⟩)
  | 67 => .slice (some ⟨b, 0, none⟩) m m
  | _ => undef
def oF10 (g n cap i a b m : Nat) (D B : ByteArray) (d : Nat) (v : Value) (_ : World) : Prop := v = oV10 g n cap i a b m D B d
def oV18 (g n cap i q pt : Nat) (D B s : ByteArray) : Nat → Value
  | 98 => .pointer (some ⟨q, 0, none⟩)
  | 99 => .string D
  | 104 => .string D
  | 100 => .slice (some ⟨g, 0, none⟩) n cap
  | 122 => .slice (some ⟨g, 0, none⟩) n cap
  | 101 => .int .i64 (i : Int)
  | 123 => .int .i64 (i : Int)
  | 102 => .pointer (some ⟨g, i * 4, none⟩)
  | 124 => .pointer (some ⟨g, i * 4, none⟩)
  | 125 => .pointer (some ⟨g, i * 4, none⟩)
  | 103 => .pointer (some ⟨g, i * 4 + 1, none⟩)
  | 105 => .bool false
  | 106 => .bool false
  | 109 => .bool false
  | 110 => .bool false
  | 111 => .bool false
  | 114 => .bool false
  | 115 => .bool false
  | 116 => .bool false
  | 128 => .bool false
  | 129 => .bool false
  | 107 => .pointer (some ⟨q, 1, none⟩)
  | 117 => .pointer (some ⟨q, 1, none⟩)
  | 108 => .int .i64 (pt : Int)
  | 118 => .int .i64 (pt : Int)
  | 112 => .pointer (some ⟨q, 2, none⟩)
  | 119 => .pointer (some ⟨q, 2, none⟩)
  | 113 => .int .i64 (s.size : Int)
  | 120 => .int .i64 (s.size : Int)
  | 121 => .int .i64 ((pt + s.size : Nat) : Int)
  | 126 => .string B
  | 127 => .int .i64 (B.size : Int)
  | _ => undef
def oF18 (g n cap i q pt : Nat) (D B s : ByteArray) (d : Nat) (v : Value) (_ : World) : Prop := v = oV18 g n cap i q pt D B s d
def oV20 (g n cap i q pt : Nat) (B s : ByteArray) : Nat → Value
  | 130 => .slice (some ⟨g, 0, none⟩) n cap
  | 131 => .int .i64 (i : Int)
  | 132 => .pointer (some ⟨g, i * 4, none⟩)
  | 133 => .pointer (some ⟨g, i * 4, none⟩)
  | 134 => .string B
  | 135 => .pointer (some ⟨q, 1, none⟩)
  | 137 => .pointer (some ⟨q, 1, none⟩)
  | 136 => .int .i64 (pt : Int)
  | 138 => .int .i64 (pt : Int)
  | 139 => .pointer (some ⟨q, 2, none⟩)
  | 140 => .int .i64 (s.size : Int)
  | 141 => .int .i64 ((pt + s.size : Nat) : Int)
  | 142 => .string s
  | 11 => .string s
  | _ => undef
def oF20 (g n cap i q pt : Nat) (B s : ByteArray) (d : Nat) (v : Value) (_ : World) : Prop := v = oV20 g n cap i q pt B s d
def oV21 (g n cap i a m k : Nat) (s : ByteArray) : Nat → Value
  | 143 => .string s
  | 144 => .string (dg s)
  | 152 => .string (dg s)
  | 145 => .slice (some ⟨g, 0, none⟩) n cap
  | 146 => .int .i64 (i : Int)
  | 147 => .pointer (some ⟨g, i * 4, none⟩)
  | 148 => .pointer (some ⟨g, i * 4 + 2, none⟩)
  | 149 => .slice (some ⟨a, 0, none⟩) m m
  | 150 => .int .i64 (k : Int)
  | 151 => .pointer (some ⟨a, k, none⟩)
  | 153 => .bool false
  | _ => undef
def oF21 (g n cap i a m k : Nat) (s : ByteArray) (d : Nat) (v : Value) (_ : World) : Prop := v = oV21 g n cap i a m k s d
def oV30 (g n cap i h c1 k co : Nat) (R O : Option Addr) (B : ByteArray) : Nat → Value
  | 208 => .int .i64 0
  | 228 => .int .i64 0
  | 209 => .bool false
  | 210 => .bool false
  | 213 => .bool false
  | 214 => .bool false
  | 215 => .bool false
  | 225 => .bool false
  | 226 => .bool false
  | 227 => .bool false
  | 229 => .bool false
  | 230 => .bool false
  | 231 => .bool false
  | 236 => .bool false
  | 237 => .bool false
  | 211 => .slice (some ⟨h, 0, none⟩) 1 c1
  | 216 => .slice (some ⟨h, 0, none⟩) 1 c1
  | 212 => .int .i64 1
  | 217 => .pointer (some ⟨h, 0, none⟩)
  | 218 => .pointer (some ⟨h, 0, none⟩)
  | 219 => .string B
  | 224 => .string B
  | 220 => .slice (some ⟨g, 0, none⟩) n cap
  | 221 => .int .i64 (i : Int)
  | 222 => .pointer (some ⟨g, i * 4, none⟩)
  | 223 => .pointer (some ⟨g, i * 4, none⟩)
  | 232 => .slice R k k
  | 233 => .int .i64 (k : Int)
  | 235 => .int .i64 (k : Int)
  | 234 => .slice O k co
  | _ => undef
def oF30 (g n cap i h c1 k co : Nat) (R O : Option Addr) (B : ByteArray) (d : Nat) (v : Value) (_ : World) : Prop := v = oV30 g n cap i h c1 k co R O B d
set_option maxRecDepth 20000 in
set_option maxHeartbeats 4000000 in
/-- what is too much is not gone through -/
theorem once_far (l : List ByteArray) (A : Option Addr) (cap : Nat) (w : World) (ht : S.Tabs w) (h : Tx w A l) (hl : l.length ≤ 9223372036854775807) (hs : ∀ s ∈ l, s.size ≤ 9223372036850000000) (hb : lgS 0 l = true) :
    Calls Tryd.prog 5 #[.slice A l.length cap] w fun e w' => e = .returned (.bool true) ∧ Below w.heap.size w w' := by
  have C1 := long_any l A cap w h hl hs
  rw [hb] at C1
  have HT := hid ht
  generalize l.length = n at *
  clear h hs hb hl ht
  go_enter Tryd.func5, Tryd.ntmps5
  go_wp2_with fail
  refine C1.mono ?_
  rintro e w1 ⟨rfl, b1⟩
  have B1 := hid b1
  clear b1 C1
  go_wp2_with fail
  refine (awake_any _ (tabs_below HT.out B1.out (Nat.le_refl _))).mono ?_
  rintro e w2 ⟨rfl, b2⟩
  have B2 := hid (B1.out.trans (b2.mono B1.out.size))
  clear b2
  go_wp2_with fail
  go_ret
  exact ⟨rfl, B2.out⟩
set_option maxRecDepth 20000 in
set_option maxHeartbeats 4000000 in
/-- what may not be is refused -/
theorem once_bad (l : List ByteArray) (A : Option Addr) (cap : Nat) (w : World) (ht : S.Tabs w) (h : Tx w A l) (hl : l.length ≤ 9223372036854775807) (hs : ∀ s ∈ l, s.size ≤ 9223372036850000000) (hb : lgS 0 l = false) (hbad : badB l = true) :
    Calls Tryd.prog 5 #[.slice A l.length cap] w fun e w' => e = .returned (.bool true) ∧ Below w.heap.size w w' := by
  have C1 := long_any l A cap w h hl hs
  rw [hb] at C1
  have hsm := lgS_no l 0 (by decide) hb
  have C2 := fun W (h : Tx W A l) => gather_no l A cap W h (by omega) (by omega) hbad
  have HT := hid ht
  have HL := hid h
  generalize l.length = n at *
  clear h hs hb hl ht hsm hbad
  go_enter Tryd.func5, Tryd.ntmps5
  go_wp2_with fail
  refine C1.mono ?_
  rintro e w1 ⟨rfl, b1⟩
  have B1 := hid b1
  clear b1 C1
  go_wp2_with fail
  refine (awake_any _ (tabs_below HT.out B1.out (Nat.le_refl _))).mono ?_
  rintro e w2 ⟨rfl, b2⟩
  have B2 := hid (B1.out.trans (b2.mono B1.out.size))
  clear b2
  go_wp2_with fail
  refine (C2 _ (HL.out.below B2.out)).mono ?_
  rintro e w3 ⟨rfl, b3⟩
  have B3 := hid (B2.out.trans (b3.mono B2.out.size))
  clear b3 C2
  go_wp2_with fail
  go_ret
  exact ⟨rfl, B3.out⟩
theorem gt_len (c : List ByteArray) : (Gt.packs c).length ≤ c.length := by
  have h1 : ∀ (l op : List ByteArray), (Gt.go op l).length ≤ op.length + l.length := by
    intro l
    induction l with
    | nil =>
      intro op
      unfold Gt.go
      split
      · simp
      · have : 0 < op.length := List.length_pos_iff.2 (by assumption)
        simp; omega
    | cons x r ih =>
      intro op
      by_cases h : op ≠ [] ∧ 4096 < tot op + x.size
      · rw [Gt.go_shut h, List.length_cons, List.length_cons]
        have := ih [x]
        have : 0 < op.length := List.length_pos_iff.2 h.1
        simp at *; omega
      · rw [Gt.go_open h, List.length_cons]
        have := ih (op ++ [x])
        simp at *; omega
  have := h1 (Gt.firsts [] c) []
  have := (firsts_sub c []).length_le
  unfold Gt.packs
  simp at *; omega
theorem own_grow_cell {w w2 : World} {lo n q : Nat} {v u : Value} {xs : List Value} {cs : Array Value} {t : TypeId} {k : Nat} (hrow : w.ownsRow lo 9 1 v n xs) (hq : Has w q cs t) (ht : t ≠ 9) {o : Obj} (hg : (w.alloc o).grownBy w2 v.ownBlock) (hu : cs[k]? = some u) : w2.cell? ⟨q, k, none⟩ = some u := by
  rw [((hq.alloc o).grown hg (own_has (hrow.alloc o) (hq.alloc o) ht)).cell]; exact hu
theorem map_get {L : List (List ByteArray × Nat × Nat)} {P : List (List ByteArray)} (h : L.map (·.1) = P) {i : Nat} {x : List ByteArray × Nat × Nat} (hx : L[i]? = some x) : P[i]? = some x.1 := by
  rw [← h, List.getElem?_map, hx]; rfl
theorem flat_take {P : List (List ByteArray)} {i : Nat} {p : List ByteArray} (h : P[i]? = some p) : (P.take (i + 1)).flatten = (P.take i).flatten ++ p := by
  rw [List.take_add_one, h, List.flatten_append]; simp
set_option maxRecDepth 20000 in
set_option maxHeartbeats 16000000 in
theorem once_good (c : List ByteArray) (A : Option Addr) (cc : Nat) (w : World) (ht : S.Tabs w) (h : Tx w A c) (hl : c.length ≤ 9223372036854775807) (hs : ∀ s ∈ c, s.size ≤ 9223372036850000000) (hb : lgS 0 c = false) (hbad : badB c = false) :
    Calls Tryd.prog 5 #[.slice A c.length cc] w fun e w' => e = .returned (.bool true) ∧ Below w.heap.size w w' := by
  obtain ⟨i0, hi, hz0, hz1, hz2⟩ := info_parts (show (Tryd.prog.info? 9).map (fun i => (i.zero, i.size, i.bytes)) = some (some (.string ⟨#[]⟩), 1, 16) by kernel_rfl)
  have C1 := long_any c A cc w h hl hs
  rw [hb] at C1
  have hsm := lgS_no c 0 (by decide) hb
  have C2 := fun W hT (h : Tx W A c) => gather_yes c A cc W hT h (by omega) (by omega) hbad
  have HMay := hid (Gt.packs_may (bad_no hbad))
  have HTight : Hid (Gt.Tight (Gt.packs c)) := hid (Gt.go_tight _ _)
  have HFlat := hid (Gt.packs_flat c)
  have HT0 := hid ht
  have HL := hid h
  have HSM := hid hsm
  obtain ⟨nc, hnc⟩ : ∃ nc, nc = c.length := ⟨_, rfl⟩
  have HNC := hid hnc
  rw [← hnc] at C1 C2 hsm ⊢
  clear h hs hb hl ht hbad hnc
  have hnb : nc ≤ 4000 := by omega
  clear hsm
  go_enter Tryd.func5, Tryd.ntmps5
  go_wp2_with fail
  refine C1.mono ?_
  rintro e w1 ⟨rfl, b1⟩
  have B1 := hid b1
  clear b1 C1
  go_wp2_with fail
  refine (awake_any _ (tabs_below HT0.out B1.out (Nat.le_refl _))).mono ?_
  rintro e w2 ⟨rfl, b2⟩
  have B2 := hid (B1.out.trans (b2.mono B1.out.size))
  clear b2
  go_wp2_with fail
  refine (C2 _ (tabs_below HT0.out B2.out (Nat.le_refl _)) (HL.out.below B2.out)).mono ?_
  rintro e w3 ⟨v, L, rfl, hp, hm, b3⟩
  obtain ⟨A3, cap, rfl⟩ := hp.slice
  have B3 := hid (B2.out.trans (b3.mono B2.out.size))
  have HT := hid (tabs_below HT0.out B3.out (Nat.le_refl _))
  have HL3 := hid (HL.out.below B3.out)
  obtain ⟨n, hn⟩ : ∃ n, n = L.length := ⟨_, rfl⟩
  rw [← hn] at hp ⊢
  have HP := hid hp
  have HM := hid hm
  have HN := hid hn
  have hnl : n ≤ 4000 := by
    have h1 : n = (Gt.packs c).length := by rw [← hm, List.length_map]; exact hn
    have h2 := gt_len c
    rw [← HNC.out] at h2
    omega
  clear b3 C2 hp hm hn
  go_wp2_with fail
  go_loopw [5, 6, 7, 8, 9, 10, 11, 12, 13, 14, 15, 16] (fun v5 v6 _ _ _ _ _ _ _ _ _ _ wr => ∃ i : Nat, i ≤ n ∧ v6 = .int .i64 (i : Int) ∧ Hid (wr.ownsRow w3.heap.size 9 1 v5 (((Gt.packs c).take i).flatten).length ((((Gt.packs c).take i).flatten).map Value.string)) ∧ Hid (Below w3.heap.size w3 wr)) (fun _ v6 _ _ _ _ _ _ _ _ _ _ _ => n - (intOf v6).toNat)
  case atStart => exact ⟨0, Nat.zero_le _, rfl, World.ownsRow_nil _ _ _ _, Below.refl _ _⟩
  case round =>
    obtain ⟨i, hik, rfl, HAll, HC⟩ := hrel
    by_cases hlt : i < n
    · have hiL : i < L.length := by rw [← HN.out]; exact hlt
      obtain ⟨⟨p, a, b⟩, hx⟩ : ∃ x, L[i]? = some x := ⟨_, List.getElem?_eq_getElem hiL⟩
      obtain ⟨g, eA, _, hg, k0, k1, k2, k3⟩ := HP.out.cells i _ hx
      subst eA
      have hmem := List.mem_of_getElem? hx
      have hat := HP.out.each _ hmem
      have hpx := map_get HM.out hx
      have hM := HMay.out p (List.mem_of_getElem? hpx)
      have hone := hM.one
      rw [List.length_map] at hone
      have hmost := hM.most
      rw [List.length_map] at hmost
      have hbs := pb_size p
      have hts := (may_tot hM).2
      dsimp only at k0 k1 k2 k3 hat
      obtain ⟨m, hm⟩ : ∃ m, m = p.length := ⟨_, rfl⟩
      have HMM := hid hm
      rw [← hm] at k2 k3 hone hmost
      have HDB := hid (fun W hT => dig_any (pb p) (by omega) W hT)
      have HPB : Hid (∀ k, k < m → pat p k + (p.getD k ⟨#[]⟩).size ≤ (pb p).size ∧ (pb p).extract (pat p k) (pat p k + (p.getD k ⟨#[]⟩).size) = p.getD k ⟨#[]⟩ ∧ 1 ≤ (p.getD k ⟨#[]⟩).size) := hid fun k hk => by
        rw [hm] at hk
        exact ⟨pat_le k hk, back_part k hk, may_size hM k hk⟩
      have HBSZ : Hid ((pb p).size ≤ 100000) := hid (by omega)
      have hRd := fun W => read_yes (pb p) (by omega) (p.map bs) hM (bs_ofBs _ (blob_lt p)) W
      rw [back_blob hM, ← hm] at hRd
      have HRd := hid hRd
      have HK30 := hid k0
      have HMp := hid hM
      have HAT := hid hat
      have HPX := hid hpx
      have HG := hid hg
      have HI := hid hlt
      clear hx hmem hat hpx hM hbs hts hg hm hRd
      have HKW0 := hid ((HC.out.cell (p := ⟨g, i * 4, none⟩) HG.out).trans k0)
      have HKW1 := hid ((HC.out.cell (p := ⟨g, i * 4 + 1, none⟩) HG.out).trans k1)
      have HKW2 := hid ((HC.out.cell (p := ⟨g, i * 4 + 2, none⟩) HG.out).trans k2)
      have HKW3 := hid ((HC.out.cell (p := ⟨g, i * 4 + 3, none⟩) HG.out).trans k3)
      clear k0 k1 k2 k3
      obtain ⟨B, hB⟩ : ∃ B, B = pb p := ⟨_, rfl⟩
      obtain ⟨D, hD⟩ : ∃ D, D = dg (pb p) := ⟨_, rfl⟩
      have HB := hid hB
      have HD := hid hD
      rw [← hD] at HKW1 HDB
      rw [← hB] at HKW0 HDB HPB HBSZ HRd HK30
      clear hB hD
      have HM0 : Hid ((((m : Nat) : Int) == 0) = false) := hid (by simp; omega)
      have i1 : (i : Int) < (n : Int) := by omega
      have i00 : (0 : Int) ≤ (i : Int) := by omega
      have HGW := hid (Nat.lt_of_lt_of_le HG.out HC.out.size)
      go_wp2_with fail
      refine Tl.wp_mix_lit (by kernel_rfl) 36 [44, 45, 46, 47, 48, 49, 50, 51, 52, 53, 54, 55, 56, 57, 58, 59, 60, 61, 62, 63, 64, 65, 66, 67, 68, 69, 70, 71, 72, 73, 74, 75, 76, 77, 78, 79] 283 rfl (by kernel_rfl) (fun W => Below wr.heap.size wr W) (oF10 g n cap i a b m D B) (Below.refl _ _).drew
        ⟨fun a' W' hC hF => ?_, fun a' W' hC hF => ?_, fun a' W' hC hF => ?_, fun a' W' hC hF => ?_, fun a' W' hC hF => ?_, fun a' W' hC hF => ?_, fun a' W' hC hF => ?_, fun a' W' hC hF => ?_, fun a' W' hC hF => ?_, fun a' W' hC hF => ?_, fun a' W' hC hF => ?_, fun a' W' hC hF => ?_, fun a' W' hC hF => ?_, fun a' W' hC hF => ?_, fun a' W' hC hF => ?_, fun a' W' hC hF => ?_, fun a' W' hC hF => ?_, fun a' W' hC hF => ?_, fun a' W' hC hF => ?_, fun a' W' hC hF => ?_, fun a' W' hC hF => ?_, fun a' W' hC hF => ?_, fun a' W' hC hF => ?_, fun a' W' hC hF => ?_, fun a' W' hC hF => ?_, fun a' W' hC hF => ?_, fun a' W' hC hF => ?_, fun a' W' hC hF => ?_, fun a' W' hC hF => ?_, fun a' W' hC hF => ?_, fun a' W' hC hF => ?_, fun a' W' hC hF => ?_, fun a' W' hC hF => ?_, fun a' W' hC hF => ?_, fun a' W' hC hF => ?_, fun a' W' hC hF => ?_, trivial⟩ ?_
      · exact Tl.sm_v 44 _ rfl (Tl.wanted_none rfl) hC rfl (rn_move rfl ((hF 3 (by decide +kernel)).2 (by decide)))
      · exact Tl.sm_v 45 _ rfl (Tl.wanted_none rfl) hC rfl (rn_move rfl ((hF 6 (by decide +kernel)).2 (by decide)))
      · exact Tl.sm_v 46 _ rfl (Tl.wanted_none rfl) hC rfl (rn_ix25 rfl (show Act.eval a' (.tmp 44) = .slice (some ⟨g, 0, none⟩) n cap from ((hF 44 (by decide +kernel)).1 (by decide))) (show Act.eval a' (.tmp 45) = .int .i64 (i : Int) from ((hF 45 (by decide +kernel)).1 (by decide))) HI.out)
      · exact Tl.sm_v 47 _ rfl (Tl.wanted_none rfl) hC rfl (rn_fa39_1 rfl (show Act.eval a' (.tmp 46) = .pointer (some ⟨g, i * 4, none⟩) from ((hF 46 (by decide +kernel)).1 (by decide))))
      · exact Tl.sm_v 48 _ rfl (Tl.wanted_none rfl) hC rfl (rn_load9 rfl (show Act.eval a' (.tmp 47) = .pointer (some ⟨g, i * 4 + 1, none⟩) from ((hF 47 (by decide +kernel)).1 (by decide))) ((hC.cell (p := ⟨g, i * 4 + 1, none⟩) HGW.out).trans HKW1.out))
      · exact Tl.sm_v 49 _ rfl (Tl.wanted_none rfl) hC rfl (rn_move rfl ((hF 3 (by decide +kernel)).2 (by decide)))
      · exact Tl.sm_v 50 _ rfl (Tl.wanted_none rfl) hC rfl (rn_move rfl ((hF 6 (by decide +kernel)).2 (by decide)))
      · exact Tl.sm_v 51 _ rfl (Tl.wanted_none rfl) hC rfl (rn_ix25 rfl (show Act.eval a' (.tmp 49) = .slice (some ⟨g, 0, none⟩) n cap from ((hF 49 (by decide +kernel)).1 (by decide))) (show Act.eval a' (.tmp 50) = .int .i64 (i : Int) from ((hF 50 (by decide +kernel)).1 (by decide))) HI.out)
      · exact Tl.sm_v 52 _ rfl (Tl.wanted_none rfl) hC rfl (rn_fa39_0 rfl (show Act.eval a' (.tmp 51) = .pointer (some ⟨g, i * 4, none⟩) from ((hF 51 (by decide +kernel)).1 (by decide))))
      · exact Tl.sm_v 53 _ rfl (Tl.wanted_none rfl) hC rfl (rn_load9 rfl (show Act.eval a' (.tmp 52) = .pointer (some ⟨g, i * 4, none⟩) from ((hF 52 (by decide +kernel)).1 (by decide))) ((hC.cell (p := ⟨g, i * 4, none⟩) HGW.out).trans HKW0.out))
      · refine Tl.sm_call 14 #[_] (Tl.wanted_none rfl) (rn_call1 rfl rfl (show Act.eval a' (.tmp 53) = .string B from ((hF 53 (by decide +kernel)).1 (by decide))) (en14 _ _)) ((HDB.out W' (tabs_below HT.out (HC.out.trans (hC.mono HC.out.size)) (Nat.le_refl _))).mono ?_)
        rintro e W'' ⟨rfl, hb⟩
        exact ⟨_, rfl, hC.trans (hb.mono hC.size), fun d v _ h => h, fun d hd => by cases hd; rfl⟩
      · exact Tl.sm_v 55 _ rfl (Tl.wanted_none rfl) hC rfl (rn_neq9 rfl (show Act.eval a' (.tmp 48) = .string D from ((hF 48 (by decide +kernel)).1 (by decide))) (show Act.eval a' (.tmp 54) = .string D from ((hF 54 (by decide +kernel)).1 (by decide))) )
      · exact Tl.sm_v 56 _ rfl (Tl.wanted_none rfl) hC rfl (rn_move rfl (show Act.eval a' (.tmp 55) = .bool false from ((hF 55 (by decide +kernel)).1 (by decide))))
      · exact Tl.sm_v 57 _ rfl (Tl.wanted_is rfl rfl (show Act.eval a' (.tmp 56) = .bool false from ((hF 56 (by decide +kernel)).1 (by decide)))) hC rfl (rn_move rfl ((hF 3 (by decide +kernel)).2 (by decide)))
      · exact Tl.sm_v 58 _ rfl (Tl.wanted_is rfl rfl (show Act.eval a' (.tmp 56) = .bool false from ((hF 56 (by decide +kernel)).1 (by decide)))) hC rfl (rn_move rfl ((hF 6 (by decide +kernel)).2 (by decide)))
      · exact Tl.sm_v 59 _ rfl (Tl.wanted_is rfl rfl (show Act.eval a' (.tmp 56) = .bool false from ((hF 56 (by decide +kernel)).1 (by decide)))) hC rfl (rn_ix25 rfl (show Act.eval a' (.tmp 57) = .slice (some ⟨g, 0, none⟩) n cap from ((hF 57 (by decide +kernel)).1 (by decide))) (show Act.eval a' (.tmp 58) = .int .i64 (i : Int) from ((hF 58 (by decide +kernel)).1 (by decide))) HI.out)
      · exact Tl.sm_v 60 _ rfl (Tl.wanted_is rfl rfl (show Act.eval a' (.tmp 56) = .bool false from ((hF 56 (by decide +kernel)).1 (by decide)))) hC rfl (rn_fa39_2 rfl (show Act.eval a' (.tmp 59) = .pointer (some ⟨g, i * 4, none⟩) from ((hF 59 (by decide +kernel)).1 (by decide))))
      · exact Tl.sm_v 61 _ rfl (Tl.wanted_is rfl rfl (show Act.eval a' (.tmp 56) = .bool false from ((hF 56 (by decide +kernel)).1 (by decide)))) hC rfl (rn_load22 rfl (show Act.eval a' (.tmp 60) = .pointer (some ⟨g, i * 4 + 2, none⟩) from ((hF 60 (by decide +kernel)).1 (by decide))) ((hC.cell (p := ⟨g, i * 4 + 2, none⟩) HGW.out).trans HKW2.out))
      · exact Tl.sm_v 62 _ rfl (Tl.wanted_is rfl rfl (show Act.eval a' (.tmp 56) = .bool false from ((hF 56 (by decide +kernel)).1 (by decide)))) hC rfl (rn_len22 rfl (show Act.eval a' (.tmp 61) = .slice (some ⟨a, 0, none⟩) m m from ((hF 61 (by decide +kernel)).1 (by decide))) )
      · exact Tl.sm_v 63 _ rfl (Tl.wanted_is rfl rfl (show Act.eval a' (.tmp 56) = .bool false from ((hF 56 (by decide +kernel)).1 (by decide)))) hC rfl (rn_move rfl ((hF 3 (by decide +kernel)).2 (by decide)))
      · exact Tl.sm_v 64 _ rfl (Tl.wanted_is rfl rfl (show Act.eval a' (.tmp 56) = .bool false from ((hF 56 (by decide +kernel)).1 (by decide)))) hC rfl (rn_move rfl ((hF 6 (by decide +kernel)).2 (by decide)))
      · exact Tl.sm_v 65 _ rfl (Tl.wanted_is rfl rfl (show Act.eval a' (.tmp 56) = .bool false from ((hF 56 (by decide +kernel)).1 (by decide)))) hC rfl (rn_ix25 rfl (show Act.eval a' (.tmp 63) = .slice (some ⟨g, 0, none⟩) n cap from ((hF 63 (by decide +kernel)).1 (by decide))) (show Act.eval a' (.tmp 64) = .int .i64 (i : Int) from ((hF 64 (by decide +kernel)).1 (by decide))) HI.out)
      · exact Tl.sm_v 66 _ rfl (Tl.wanted_is rfl rfl (show Act.eval a' (.tmp 56) = .bool false from ((hF 56 (by decide +kernel)).1 (by decide)))) hC rfl (rn_fa39_3 rfl (show Act.eval a' (.tmp 65) = .pointer (some ⟨g, i * 4, none⟩) from ((hF 65 (by decide +kernel)).1 (by decide))))
      · exact Tl.sm_v 67 _ rfl (Tl.wanted_is rfl rfl (show Act.eval a' (.tmp 56) = .bool false from ((hF 56 (by decide +kernel)).1 (by decide)))) hC rfl (rn_load32 rfl (show Act.eval a' (.tmp 66) = .pointer (some ⟨g, i * 4 + 3, none⟩) from ((hF 66 (by decide +kernel)).1 (by decide))) ((hC.cell (p := ⟨g, i * 4 + 3, none⟩) HGW.out).trans HKW3.out))
      · exact Tl.sm_v 68 _ rfl (Tl.wanted_is rfl rfl (show Act.eval a' (.tmp 56) = .bool false from ((hF 56 (by decide +kernel)).1 (by decide)))) hC rfl (rn_len32 rfl (show Act.eval a' (.tmp 67) = .slice (some ⟨b, 0, none⟩) m m from ((hF 67 (by decide +kernel)).1 (by decide))) )
      · exact Tl.sm_v 69 _ rfl (Tl.wanted_is rfl rfl (show Act.eval a' (.tmp 56) = .bool false from ((hF 56 (by decide +kernel)).1 (by decide)))) hC rfl (rn_neq3 rfl (show Act.eval a' (.tmp 62) = .int .i64 (m : Int) from ((hF 62 (by decide +kernel)).1 (by decide))) (show Act.eval a' (.tmp 68) = .int .i64 (m : Int) from ((hF 68 (by decide +kernel)).1 (by decide))) ((by simp)))
      · exact Tl.sm_v 70 _ rfl (Tl.wanted_none rfl) hC rfl (rn_pickF rfl (show Act.eval a' (.tmp 56) = .bool false from ((hF 56 (by decide +kernel)).1 (by decide))) (show Act.eval a' (.tmp 69) = .bool false from ((hF 69 (by decide +kernel)).1 (by decide))))
      · exact Tl.sm_v 71 _ rfl (Tl.wanted_none rfl) hC rfl (rn_move rfl (show Act.eval a' (.tmp 70) = .bool false from ((hF 70 (by decide +kernel)).1 (by decide))))
      · exact Tl.sm_v 72 _ rfl (Tl.wanted_is rfl rfl (show Act.eval a' (.tmp 71) = .bool false from ((hF 71 (by decide +kernel)).1 (by decide)))) hC rfl (rn_move rfl ((hF 3 (by decide +kernel)).2 (by decide)))
      · exact Tl.sm_v 73 _ rfl (Tl.wanted_is rfl rfl (show Act.eval a' (.tmp 71) = .bool false from ((hF 71 (by decide +kernel)).1 (by decide)))) hC rfl (rn_move rfl ((hF 6 (by decide +kernel)).2 (by decide)))
      · exact Tl.sm_v 74 _ rfl (Tl.wanted_is rfl rfl (show Act.eval a' (.tmp 71) = .bool false from ((hF 71 (by decide +kernel)).1 (by decide)))) hC rfl (rn_ix25 rfl (show Act.eval a' (.tmp 72) = .slice (some ⟨g, 0, none⟩) n cap from ((hF 72 (by decide +kernel)).1 (by decide))) (show Act.eval a' (.tmp 73) = .int .i64 (i : Int) from ((hF 73 (by decide +kernel)).1 (by decide))) HI.out)
      · exact Tl.sm_v 75 _ rfl (Tl.wanted_is rfl rfl (show Act.eval a' (.tmp 71) = .bool false from ((hF 71 (by decide +kernel)).1 (by decide)))) hC rfl (rn_fa39_2 rfl (show Act.eval a' (.tmp 74) = .pointer (some ⟨g, i * 4, none⟩) from ((hF 74 (by decide +kernel)).1 (by decide))))
      · exact Tl.sm_v 76 _ rfl (Tl.wanted_is rfl rfl (show Act.eval a' (.tmp 71) = .bool false from ((hF 71 (by decide +kernel)).1 (by decide)))) hC rfl (rn_load22 rfl (show Act.eval a' (.tmp 75) = .pointer (some ⟨g, i * 4 + 2, none⟩) from ((hF 75 (by decide +kernel)).1 (by decide))) ((hC.cell (p := ⟨g, i * 4 + 2, none⟩) HGW.out).trans HKW2.out))
      · exact Tl.sm_v 77 _ rfl (Tl.wanted_is rfl rfl (show Act.eval a' (.tmp 71) = .bool false from ((hF 71 (by decide +kernel)).1 (by decide)))) hC rfl (rn_len22 rfl (show Act.eval a' (.tmp 76) = .slice (some ⟨a, 0, none⟩) m m from ((hF 76 (by decide +kernel)).1 (by decide))) )
      · exact Tl.sm_v 78 _ rfl (Tl.wanted_is rfl rfl (show Act.eval a' (.tmp 71) = .bool false from ((hF 71 (by decide +kernel)).1 (by decide)))) hC rfl (rn_eql3 rfl (show Act.eval a' (.tmp 77) = .int .i64 (m : Int) from ((hF 77 (by decide +kernel)).1 (by decide))) rfl HM0.out)
      · exact Tl.sm_v 79 _ rfl (Tl.wanted_none rfl) hC rfl (rn_pickF rfl (show Act.eval a' (.tmp 71) = .bool false from ((hF 71 (by decide +kernel)).1 (by decide))) (show Act.eval a' (.tmp 78) = .bool false from ((hF 78 (by decide +kernel)).1 (by decide))))
      intro v' w4 hC hv
      have e79 : v' 79 = .bool false := hv 79 (by decide)
      have HC4 := hid (HC.out.trans (hC.mono HC.out.size))
      have HAll4 := hid (own_below HAll.out hC (Nat.le_refl _))
      have HKR2 := hid ((hC.cell (p := ⟨g, i * 4 + 2, none⟩) HGW.out).trans HKW2.out)
      have HKR3 := hid ((hC.cell (p := ⟨g, i * 4 + 3, none⟩) HGW.out).trans HKW3.out)
      have HKR0 := hid ((hC.cell (p := ⟨g, i * 4, none⟩) HGW.out).trans HKW0.out)
      have HKR1 := hid ((hC.cell (p := ⟨g, i * 4 + 1, none⟩) HGW.out).trans HKW1.out)
      have HGR := hid (Nat.lt_of_lt_of_le HGW.out hC.size)
      simp only [Tl.fill, List.drop]
      simp only [Act.put, List.setIfInBounds_toArray, List.set_cons_succ, List.set_cons_zero, e79]
      simp only [wpList]
      clear hv hC e79 HAll HKW0 HKW1 HKW2 HKW3 HGW HC
      go_wp2_with fail
      go_loopw [7, 8, 9, 10, 11] (fun v7 v8 v9 _ _ wr => ∃ k : Nat, k ≤ m ∧ v9 = .int .i64 (k : Int) ∧ v7 = .int .i64 (tot (p.take k) : Int) ∧ Hid (wr.ownsRow w4.heap.size 9 1 v8 (p.take k).length ((p.take k).map Value.string)) ∧ Hid (Below w4.heap.size w4 wr)) (fun _ _ v9 _ _ _ => m - (intOf v9).toNat)
      case atStart => exact ⟨0, Nat.zero_le _, rfl, by simp [tot, total], World.ownsRow_nil _ _ _ _, Below.refl _ _⟩
      case round =>
        obtain ⟨k, hkm, rfl, rfl, HOwn, HB4⟩ := hrel
        have j3 := (HB4.out.cell (p := ⟨g, i * 4 + 3, none⟩) HGR.out).trans HKR3.out
        by_cases hltk : k < m
        · as_aux_lemma =>
            have HKM := hid hltk
            have hkp : k < p.length := by rw [← HMM.out]; exact hltk
            have hx3 := plT_get p k hkp
            have hB5 := hid (HC4.out.trans (HB4.out.mono HC4.out.size))
            have hb5 := HAT.out.hb.below hB5.out (HAT.out.hb.lt)
            obtain ⟨d0, d1, d2⟩ := tC_cell hb5 k _ hx3
            rw [← HD.out] at d0
            obtain ⟨hle, hex, hsz⟩ := HPB.out k hltk
            have hbz := HBSZ.out
            obtain ⟨s, hs⟩ : ∃ s, s = p.getD k ⟨#[]⟩ := ⟨_, rfl⟩
            obtain ⟨pt, hpt⟩ : ∃ pt, pt = pat p k := ⟨_, rfl⟩
            have HSE := hid hs
            have HPE := hid hpt
            rw [← hs] at d2 hle hex hsz
            rw [← hpt] at d1 hle hex
            clear hx3 hb5 hs hpt
            have i3 : (k : Int) < (m : Int) := by omega
            have i30 : (0 : Int) ≤ (k : Int) := by omega
            have hht := tot_take_le p (k + 1)
            have htk := tot_take p k hkp
            rw [← HSE.out] at htk
            have hts := (may_tot HMp.out).2
            have HTK := hid htk
            have HAD : Hid (IntKind.i64.wrap ((pt : Int) + (s.size : Int)) = ((pt + s.size : Nat) : Int)) := hid (by rw [IntKind.wrap_i64]; omega)
            have wks : IntKind.i64.wrap ((tot (p.take k) : Int) + (s.size : Int)) = ((tot (p.take (k + 1)) : Nat) : Int) := by rw [IntKind.wrap_i64]; omega
            have wkk : IntKind.i64.wrap ((k : Int) + 1) = ((k + 1 : Nat) : Int) := by rw [IntKind.wrap_i64]; omega
            have HP0 : Hid (decide ((pt : Int) < 0) = false) := hid (by simp)
            have HS1 : Hid (decide ((s.size : Int) < 1) = false) := hid (by simp; omega)
            have HLE : Hid (decide ((B.size : Int) < ((pt + s.size : Nat) : Int)) = false) := hid (by simp; omega)
            have HLN := hid hle
            have HPT := hid hex
            have hsz9 : s.size ≤ 100000 := by omega
            clear hle hex hsz hbz hht htk hts
            go_wp2_with fail
            have hq0 := Has.new wr wr.heap.size #[.string D, .int .i64 (pt : Int), .int .i64 (s.size : Int)] 42 rfl
            have hbq : Below wr.heap.size wr (wr.alloc (.cells #[.string D, .int .i64 (pt : Int), .int .i64 (s.size : Int)] 42)) := (Below.refl _ _).alloc (Nat.le_refl _) _
            have HBQ := hid (HB4.out.trans (hbq.mono HB4.out.size))
            have HC2 := hid (HC4.out.trans (HBQ.out.mono HC4.out.size))
            have HOwnQ := hid (own_below HOwn.out hbq (Nat.le_refl _))
            have HKQ0 := hid ((HBQ.out.cell (p := ⟨g, i * 4, none⟩) HGR.out).trans HKR0.out)
            have HKQ1 := hid ((HBQ.out.cell (p := ⟨g, i * 4 + 1, none⟩) HGR.out).trans HKR1.out)
            have HKQ2 := hid ((HBQ.out.cell (p := ⟨g, i * 4 + 2, none⟩) HGR.out).trans HKR2.out)
            have HGQ := hid (Nat.lt_of_lt_of_le HGR.out HBQ.out.size)
            have Q0 := hid (hq0.cell 0)
            have Q1 := hid (hq0.cell 1)
            have Q2 := hid (hq0.cell 2)
            have HQL := hid hq0.lt
            have HQH := hid hq0
            have haa := HAT.out.ha.below HC2.out HAT.out.ha.lt
            have HAC : Hid ((wr.alloc (.cells #[.string D, .int .i64 (pt : Int), .int .i64 (s.size : Int)] 42)).cell? ⟨a, k, none⟩ = some (.string (dg s))) := hid (by
              rw [haa.cell]
              have e : s = p[k] := by rw [HSE.out, List.getD_eq_getElem?_getD, List.getElem?_eq_getElem hkp]; rfl
              simp [sTx, List.getElem?_map, List.getElem?_eq_getElem hkp, e])
            have HAL := hid haa.lt
            have HDS := hid (fun W hT => dig_any s (by omega) W hT)
            have HOB : Hid (w4.heap.size ≤ wr.heap.size) := hid HB4.out.size
            clear hq0 hbq HOwn HB4 haa j3 d0 d1 d2 hB5
            generalize wr.alloc (.cells #[.string D, .int .i64 (pt : Int), .int .i64 (s.size : Int)] 42) = wq at *
            generalize wr.heap.size = q at *
            refine Tl.wp_mix_lit (by kernel_rfl) 32 [98, 99, 100, 101, 102, 103, 104, 105, 106, 107, 108, 109, 110, 111, 112, 113, 114, 115, 116, 117, 118, 119, 120, 121, 122, 123, 124, 125, 126, 127, 128, 129] 283 rfl (by kernel_rfl) (fun W => Below wq.heap.size wq W) (oF18 g n cap i q pt D B s) (Below.refl _ _).drew
              ⟨fun a' W' hC hF => ?_, fun a' W' hC hF => ?_, fun a' W' hC hF => ?_, fun a' W' hC hF => ?_, fun a' W' hC hF => ?_, fun a' W' hC hF => ?_, fun a' W' hC hF => ?_, fun a' W' hC hF => ?_, fun a' W' hC hF => ?_, fun a' W' hC hF => ?_, fun a' W' hC hF => ?_, fun a' W' hC hF => ?_, fun a' W' hC hF => ?_, fun a' W' hC hF => ?_, fun a' W' hC hF => ?_, fun a' W' hC hF => ?_, fun a' W' hC hF => ?_, fun a' W' hC hF => ?_, fun a' W' hC hF => ?_, fun a' W' hC hF => ?_, fun a' W' hC hF => ?_, fun a' W' hC hF => ?_, fun a' W' hC hF => ?_, fun a' W' hC hF => ?_, fun a' W' hC hF => ?_, fun a' W' hC hF => ?_, fun a' W' hC hF => ?_, fun a' W' hC hF => ?_, fun a' W' hC hF => ?_, fun a' W' hC hF => ?_, fun a' W' hC hF => ?_, fun a' W' hC hF => ?_, trivial⟩ ?_
            · exact Tl.sm_v 98 _ rfl (Tl.wanted_none rfl) hC rfl (rn_fa42_0 rfl ((hF 10 (by decide +kernel)).2 (by decide)))
            · exact Tl.sm_v 99 _ rfl (Tl.wanted_none rfl) hC rfl (rn_load9 rfl (show Act.eval a' (.tmp 98) = .pointer (some ⟨q, 0, none⟩) from ((hF 98 (by decide +kernel)).1 (by decide))) ((hC.cell (p := ⟨q, 0, none⟩) HQL.out).trans Q0.out))
            · exact Tl.sm_v 100 _ rfl (Tl.wanted_none rfl) hC rfl (rn_move rfl ((hF 3 (by decide +kernel)).2 (by decide)))
            · exact Tl.sm_v 101 _ rfl (Tl.wanted_none rfl) hC rfl (rn_move rfl ((hF 6 (by decide +kernel)).2 (by decide)))
            · exact Tl.sm_v 102 _ rfl (Tl.wanted_none rfl) hC rfl (rn_ix25 rfl (show Act.eval a' (.tmp 100) = .slice (some ⟨g, 0, none⟩) n cap from ((hF 100 (by decide +kernel)).1 (by decide))) (show Act.eval a' (.tmp 101) = .int .i64 (i : Int) from ((hF 101 (by decide +kernel)).1 (by decide))) HI.out)
            · exact Tl.sm_v 103 _ rfl (Tl.wanted_none rfl) hC rfl (rn_fa39_1 rfl (show Act.eval a' (.tmp 102) = .pointer (some ⟨g, i * 4, none⟩) from ((hF 102 (by decide +kernel)).1 (by decide))))
            · exact Tl.sm_v 104 _ rfl (Tl.wanted_none rfl) hC rfl (rn_load9 rfl (show Act.eval a' (.tmp 103) = .pointer (some ⟨g, i * 4 + 1, none⟩) from ((hF 103 (by decide +kernel)).1 (by decide))) ((hC.cell (p := ⟨g, i * 4 + 1, none⟩) HGQ.out).trans HKQ1.out))
            · exact Tl.sm_v 105 _ rfl (Tl.wanted_none rfl) hC rfl (rn_neq9 rfl (show Act.eval a' (.tmp 99) = .string D from ((hF 99 (by decide +kernel)).1 (by decide))) (show Act.eval a' (.tmp 104) = .string D from ((hF 104 (by decide +kernel)).1 (by decide))) )
            · exact Tl.sm_v 106 _ rfl (Tl.wanted_none rfl) hC rfl (rn_move rfl (show Act.eval a' (.tmp 105) = .bool false from ((hF 105 (by decide +kernel)).1 (by decide))))
            · exact Tl.sm_v 107 _ rfl (Tl.wanted_is rfl rfl (show Act.eval a' (.tmp 106) = .bool false from ((hF 106 (by decide +kernel)).1 (by decide)))) hC rfl (rn_fa42_1 rfl ((hF 10 (by decide +kernel)).2 (by decide)))
            · exact Tl.sm_v 108 _ rfl (Tl.wanted_is rfl rfl (show Act.eval a' (.tmp 106) = .bool false from ((hF 106 (by decide +kernel)).1 (by decide)))) hC rfl (rn_load3 rfl (show Act.eval a' (.tmp 107) = .pointer (some ⟨q, 1, none⟩) from ((hF 107 (by decide +kernel)).1 (by decide))) ((hC.cell (p := ⟨q, 1, none⟩) HQL.out).trans Q1.out))
            · exact Tl.sm_v 109 _ rfl (Tl.wanted_is rfl rfl (show Act.eval a' (.tmp 106) = .bool false from ((hF 106 (by decide +kernel)).1 (by decide)))) hC rfl (rn_lss3 rfl (show Act.eval a' (.tmp 108) = .int .i64 (pt : Int) from ((hF 108 (by decide +kernel)).1 (by decide))) rfl HP0.out)
            · exact Tl.sm_v 110 _ rfl (Tl.wanted_none rfl) hC rfl (rn_pickF rfl (show Act.eval a' (.tmp 106) = .bool false from ((hF 106 (by decide +kernel)).1 (by decide))) (show Act.eval a' (.tmp 109) = .bool false from ((hF 109 (by decide +kernel)).1 (by decide))))
            · exact Tl.sm_v 111 _ rfl (Tl.wanted_none rfl) hC rfl (rn_move rfl (show Act.eval a' (.tmp 110) = .bool false from ((hF 110 (by decide +kernel)).1 (by decide))))
            · exact Tl.sm_v 112 _ rfl (Tl.wanted_is rfl rfl (show Act.eval a' (.tmp 111) = .bool false from ((hF 111 (by decide +kernel)).1 (by decide)))) hC rfl (rn_fa42_2 rfl ((hF 10 (by decide +kernel)).2 (by decide)))
            · exact Tl.sm_v 113 _ rfl (Tl.wanted_is rfl rfl (show Act.eval a' (.tmp 111) = .bool false from ((hF 111 (by decide +kernel)).1 (by decide)))) hC rfl (rn_load3 rfl (show Act.eval a' (.tmp 112) = .pointer (some ⟨q, 2, none⟩) from ((hF 112 (by decide +kernel)).1 (by decide))) ((hC.cell (p := ⟨q, 2, none⟩) HQL.out).trans Q2.out))
            · exact Tl.sm_v 114 _ rfl (Tl.wanted_is rfl rfl (show Act.eval a' (.tmp 111) = .bool false from ((hF 111 (by decide +kernel)).1 (by decide)))) hC rfl (rn_lss3 rfl (show Act.eval a' (.tmp 113) = .int .i64 (s.size : Int) from ((hF 113 (by decide +kernel)).1 (by decide))) rfl HS1.out)
            · exact Tl.sm_v 115 _ rfl (Tl.wanted_none rfl) hC rfl (rn_pickF rfl (show Act.eval a' (.tmp 111) = .bool false from ((hF 111 (by decide +kernel)).1 (by decide))) (show Act.eval a' (.tmp 114) = .bool false from ((hF 114 (by decide +kernel)).1 (by decide))))
            · exact Tl.sm_v 116 _ rfl (Tl.wanted_none rfl) hC rfl (rn_move rfl (show Act.eval a' (.tmp 115) = .bool false from ((hF 115 (by decide +kernel)).1 (by decide))))
            · exact Tl.sm_v 117 _ rfl (Tl.wanted_is rfl rfl (show Act.eval a' (.tmp 116) = .bool false from ((hF 116 (by decide +kernel)).1 (by decide)))) hC rfl (rn_fa42_1 rfl ((hF 10 (by decide +kernel)).2 (by decide)))
            · exact Tl.sm_v 118 _ rfl (Tl.wanted_is rfl rfl (show Act.eval a' (.tmp 116) = .bool false from ((hF 116 (by decide +kernel)).1 (by decide)))) hC rfl (rn_load3 rfl (show Act.eval a' (.tmp 117) = .pointer (some ⟨q, 1, none⟩) from ((hF 117 (by decide +kernel)).1 (by decide))) ((hC.cell (p := ⟨q, 1, none⟩) HQL.out).trans Q1.out))
            · exact Tl.sm_v 119 _ rfl (Tl.wanted_is rfl rfl (show Act.eval a' (.tmp 116) = .bool false from ((hF 116 (by decide +kernel)).1 (by decide)))) hC rfl (rn_fa42_2 rfl ((hF 10 (by decide +kernel)).2 (by decide)))
            · exact Tl.sm_v 120 _ rfl (Tl.wanted_is rfl rfl (show Act.eval a' (.tmp 116) = .bool false from ((hF 116 (by decide +kernel)).1 (by decide)))) hC rfl (rn_load3 rfl (show Act.eval a' (.tmp 119) = .pointer (some ⟨q, 2, none⟩) from ((hF 119 (by decide +kernel)).1 (by decide))) ((hC.cell (p := ⟨q, 2, none⟩) HQL.out).trans Q2.out))
            · exact Tl.sm_v 121 _ rfl (Tl.wanted_is rfl rfl (show Act.eval a' (.tmp 116) = .bool false from ((hF 116 (by decide +kernel)).1 (by decide)))) hC rfl (rn_add3 rfl (show Act.eval a' (.tmp 118) = .int .i64 (pt : Int) from ((hF 118 (by decide +kernel)).1 (by decide))) (show Act.eval a' (.tmp 120) = .int .i64 (s.size : Int) from ((hF 120 (by decide +kernel)).1 (by decide))) HAD.out)
            · exact Tl.sm_v 122 _ rfl (Tl.wanted_is rfl rfl (show Act.eval a' (.tmp 116) = .bool false from ((hF 116 (by decide +kernel)).1 (by decide)))) hC rfl (rn_move rfl ((hF 3 (by decide +kernel)).2 (by decide)))
            · exact Tl.sm_v 123 _ rfl (Tl.wanted_is rfl rfl (show Act.eval a' (.tmp 116) = .bool false from ((hF 116 (by decide +kernel)).1 (by decide)))) hC rfl (rn_move rfl ((hF 6 (by decide +kernel)).2 (by decide)))
            · exact Tl.sm_v 124 _ rfl (Tl.wanted_is rfl rfl (show Act.eval a' (.tmp 116) = .bool false from ((hF 116 (by decide +kernel)).1 (by decide)))) hC rfl (rn_ix25 rfl (show Act.eval a' (.tmp 122) = .slice (some ⟨g, 0, none⟩) n cap from ((hF 122 (by decide +kernel)).1 (by decide))) (show Act.eval a' (.tmp 123) = .int .i64 (i : Int) from ((hF 123 (by decide +kernel)).1 (by decide))) HI.out)
            · exact Tl.sm_v 125 _ rfl (Tl.wanted_is rfl rfl (show Act.eval a' (.tmp 116) = .bool false from ((hF 116 (by decide +kernel)).1 (by decide)))) hC rfl (rn_fa39_0 rfl (show Act.eval a' (.tmp 124) = .pointer (some ⟨g, i * 4, none⟩) from ((hF 124 (by decide +kernel)).1 (by decide))))
            · exact Tl.sm_v 126 _ rfl (Tl.wanted_is rfl rfl (show Act.eval a' (.tmp 116) = .bool false from ((hF 116 (by decide +kernel)).1 (by decide)))) hC rfl (rn_load9 rfl (show Act.eval a' (.tmp 125) = .pointer (some ⟨g, i * 4, none⟩) from ((hF 125 (by decide +kernel)).1 (by decide))) ((hC.cell (p := ⟨g, i * 4, none⟩) HGQ.out).trans HKQ0.out))
            · exact Tl.sm_v 127 _ rfl (Tl.wanted_is rfl rfl (show Act.eval a' (.tmp 116) = .bool false from ((hF 116 (by decide +kernel)).1 (by decide)))) hC rfl (rn_len9 rfl (show Act.eval a' (.tmp 126) = .string B from ((hF 126 (by decide +kernel)).1 (by decide))) rfl)
            · exact Tl.sm_v 128 _ rfl (Tl.wanted_is rfl rfl (show Act.eval a' (.tmp 116) = .bool false from ((hF 116 (by decide +kernel)).1 (by decide)))) hC rfl (rn_gtr3 rfl (show Act.eval a' (.tmp 121) = .int .i64 ((pt + s.size : Nat) : Int) from ((hF 121 (by decide +kernel)).1 (by decide))) (show Act.eval a' (.tmp 127) = .int .i64 (B.size : Int) from ((hF 127 (by decide +kernel)).1 (by decide))) HLE.out)
            · exact Tl.sm_v 129 _ rfl (Tl.wanted_none rfl) hC rfl (rn_pickF rfl (show Act.eval a' (.tmp 116) = .bool false from ((hF 116 (by decide +kernel)).1 (by decide))) (show Act.eval a' (.tmp 128) = .bool false from ((hF 128 (by decide +kernel)).1 (by decide))))
            intro v' w5 hC hv
            have e129 : v' 129 = .bool false := hv 129 (by decide)
            have hC5 := hid hC
            simp only [Tl.fill, List.drop]
            simp only [Act.put, List.setIfInBounds_toArray, List.set_cons_succ, List.set_cons_zero, e129]
            simp only [wpList]
            clear hv hC e129
            go_wp2_with fail
            refine Tl.wp_mix_lit (by kernel_rfl) 14 [130, 131, 132, 133, 134, 135, 136, 137, 138, 139, 140, 141, 142, 11] 283 rfl (by kernel_rfl) (fun W => Below wq.heap.size wq W) (oF20 g n cap i q pt B s) hC5.out.drew
              ⟨fun a' W' hC hF => ?_, fun a' W' hC hF => ?_, fun a' W' hC hF => ?_, fun a' W' hC hF => ?_, fun a' W' hC hF => ?_, fun a' W' hC hF => ?_, fun a' W' hC hF => ?_, fun a' W' hC hF => ?_, fun a' W' hC hF => ?_, fun a' W' hC hF => ?_, fun a' W' hC hF => ?_, fun a' W' hC hF => ?_, fun a' W' hC hF => ?_, fun a' W' hC hF => ?_, trivial⟩ ?_
            · exact Tl.sm_v 130 _ rfl (Tl.wanted_none rfl) hC rfl (rn_move rfl ((hF 3 (by decide +kernel)).2 (by decide)))
            · exact Tl.sm_v 131 _ rfl (Tl.wanted_none rfl) hC rfl (rn_move rfl ((hF 6 (by decide +kernel)).2 (by decide)))
            · exact Tl.sm_v 132 _ rfl (Tl.wanted_none rfl) hC rfl (rn_ix25 rfl (show Act.eval a' (.tmp 130) = .slice (some ⟨g, 0, none⟩) n cap from ((hF 130 (by decide +kernel)).1 (by decide))) (show Act.eval a' (.tmp 131) = .int .i64 (i : Int) from ((hF 131 (by decide +kernel)).1 (by decide))) HI.out)
            · exact Tl.sm_v 133 _ rfl (Tl.wanted_none rfl) hC rfl (rn_fa39_0 rfl (show Act.eval a' (.tmp 132) = .pointer (some ⟨g, i * 4, none⟩) from ((hF 132 (by decide +kernel)).1 (by decide))))
            · exact Tl.sm_v 134 _ rfl (Tl.wanted_none rfl) hC rfl (rn_load9 rfl (show Act.eval a' (.tmp 133) = .pointer (some ⟨g, i * 4, none⟩) from ((hF 133 (by decide +kernel)).1 (by decide))) ((hC.cell (p := ⟨g, i * 4, none⟩) HGQ.out).trans HKQ0.out))
            · exact Tl.sm_v 135 _ rfl (Tl.wanted_none rfl) hC rfl (rn_fa42_1 rfl ((hF 10 (by decide +kernel)).2 (by decide)))
            · exact Tl.sm_v 136 _ rfl (Tl.wanted_none rfl) hC rfl (rn_load3 rfl (show Act.eval a' (.tmp 135) = .pointer (some ⟨q, 1, none⟩) from ((hF 135 (by decide +kernel)).1 (by decide))) ((hC.cell (p := ⟨q, 1, none⟩) HQL.out).trans Q1.out))
            · exact Tl.sm_v 137 _ rfl (Tl.wanted_none rfl) hC rfl (rn_fa42_1 rfl ((hF 10 (by decide +kernel)).2 (by decide)))
            · exact Tl.sm_v 138 _ rfl (Tl.wanted_none rfl) hC rfl (rn_load3 rfl (show Act.eval a' (.tmp 137) = .pointer (some ⟨q, 1, none⟩) from ((hF 137 (by decide +kernel)).1 (by decide))) ((hC.cell (p := ⟨q, 1, none⟩) HQL.out).trans Q1.out))
            · exact Tl.sm_v 139 _ rfl (Tl.wanted_none rfl) hC rfl (rn_fa42_2 rfl ((hF 10 (by decide +kernel)).2 (by decide)))
            · exact Tl.sm_v 140 _ rfl (Tl.wanted_none rfl) hC rfl (rn_load3 rfl (show Act.eval a' (.tmp 139) = .pointer (some ⟨q, 2, none⟩) from ((hF 139 (by decide +kernel)).1 (by decide))) ((hC.cell (p := ⟨q, 2, none⟩) HQL.out).trans Q2.out))
            · exact Tl.sm_v 141 _ rfl (Tl.wanted_none rfl) hC rfl (rn_add3 rfl (show Act.eval a' (.tmp 138) = .int .i64 (pt : Int) from ((hF 138 (by decide +kernel)).1 (by decide))) (show Act.eval a' (.tmp 140) = .int .i64 (s.size : Int) from ((hF 140 (by decide +kernel)).1 (by decide))) HAD.out)
            · exact Tl.sm_v 142 _ rfl (Tl.wanted_none rfl) hC rfl (rn_sl9 rfl (show Act.eval a' (.tmp 134) = .string B from ((hF 134 (by decide +kernel)).1 (by decide))) (show Act.eval a' (.tmp 136) = .int .i64 (pt : Int) from ((hF 136 (by decide +kernel)).1 (by decide))) (show Act.eval a' (.tmp 141) = .int .i64 ((pt + s.size : Nat) : Int) from ((hF 141 (by decide +kernel)).1 (by decide))) (Nat.le_add_right _ _) HLN.out HPT.out)
            · exact Tl.sm_v 11 _ rfl (Tl.wanted_none rfl) hC rfl (rn_assign rfl (show Act.eval a' (.tmp 142) = .string s from ((hF 142 (by decide +kernel)).1 (by decide))))
            intro v' w6 hC hv
            have e11 : v' 11 = .string s := hv 11 (by decide)
            have hC6 := hid hC
            simp only [Tl.fill, List.drop]
            simp only [Act.put, List.setIfInBounds_toArray, List.set_cons_succ, List.set_cons_zero, e11]
            simp only [wpList]
            clear hv hC e11
            go_wp2_with fail
            refine Tl.wp_mix_lit (by kernel_rfl) 11 [143, 144, 145, 146, 147, 148, 149, 150, 151, 152, 153] 283 rfl (by kernel_rfl) (fun W => Below wq.heap.size wq W) (oF21 g n cap i a m k s) hC6.out.drew
              ⟨fun a' W' hC hF => ?_, fun a' W' hC hF => ?_, fun a' W' hC hF => ?_, fun a' W' hC hF => ?_, fun a' W' hC hF => ?_, fun a' W' hC hF => ?_, fun a' W' hC hF => ?_, fun a' W' hC hF => ?_, fun a' W' hC hF => ?_, fun a' W' hC hF => ?_, fun a' W' hC hF => ?_, trivial⟩ ?_
            · exact Tl.sm_v 143 _ rfl (Tl.wanted_none rfl) hC rfl (rn_move rfl ((hF 11 (by decide +kernel)).2 (by decide)))
            · refine Tl.sm_call 14 #[_] (Tl.wanted_none rfl) (rn_call1 rfl rfl (show Act.eval a' (.tmp 143) = .string s from ((hF 143 (by decide +kernel)).1 (by decide))) (en14 _ _)) ((HDS.out W' (tabs_below HT.out (HC2.out.trans (hC.mono HC2.out.size)) (Nat.le_refl _))).mono ?_)
              rintro e W'' ⟨rfl, hb⟩
              exact ⟨_, rfl, hC.trans (hb.mono hC.size), fun d v _ h => h, fun d hd => by cases hd; rfl⟩
            · exact Tl.sm_v 145 _ rfl (Tl.wanted_none rfl) hC rfl (rn_move rfl ((hF 3 (by decide +kernel)).2 (by decide)))
            · exact Tl.sm_v 146 _ rfl (Tl.wanted_none rfl) hC rfl (rn_move rfl ((hF 6 (by decide +kernel)).2 (by decide)))
            · exact Tl.sm_v 147 _ rfl (Tl.wanted_none rfl) hC rfl (rn_ix25 rfl (show Act.eval a' (.tmp 145) = .slice (some ⟨g, 0, none⟩) n cap from ((hF 145 (by decide +kernel)).1 (by decide))) (show Act.eval a' (.tmp 146) = .int .i64 (i : Int) from ((hF 146 (by decide +kernel)).1 (by decide))) HI.out)
            · exact Tl.sm_v 148 _ rfl (Tl.wanted_none rfl) hC rfl (rn_fa39_2 rfl (show Act.eval a' (.tmp 147) = .pointer (some ⟨g, i * 4, none⟩) from ((hF 147 (by decide +kernel)).1 (by decide))))
            · exact Tl.sm_v 149 _ rfl (Tl.wanted_none rfl) hC rfl (rn_load22 rfl (show Act.eval a' (.tmp 148) = .pointer (some ⟨g, i * 4 + 2, none⟩) from ((hF 148 (by decide +kernel)).1 (by decide))) ((hC.cell (p := ⟨g, i * 4 + 2, none⟩) HGQ.out).trans HKQ2.out))
            · exact Tl.sm_v 150 _ rfl (Tl.wanted_none rfl) hC rfl (rn_move rfl ((hF 9 (by decide +kernel)).2 (by decide)))
            · exact Tl.sm_v 151 _ rfl (Tl.wanted_none rfl) hC rfl (rn_ix22 rfl (show Act.eval a' (.tmp 149) = .slice (some ⟨a, 0, none⟩) m m from ((hF 149 (by decide +kernel)).1 (by decide))) (show Act.eval a' (.tmp 150) = .int .i64 (k : Int) from ((hF 150 (by decide +kernel)).1 (by decide))) HKM.out)
            · exact Tl.sm_v 152 _ rfl (Tl.wanted_none rfl) hC rfl (rn_load9 rfl (show Act.eval a' (.tmp 151) = .pointer (some ⟨a, k, none⟩) from ((hF 151 (by decide +kernel)).1 (by decide))) ((hC.cell (p := ⟨a, k, none⟩) HAL.out).trans HAC.out))
            · exact Tl.sm_v 153 _ rfl (Tl.wanted_none rfl) hC rfl (rn_neq9 rfl (show Act.eval a' (.tmp 144) = .string (dg s) from ((hF 144 (by decide +kernel)).1 (by decide))) (show Act.eval a' (.tmp 152) = .string (dg s) from ((hF 152 (by decide +kernel)).1 (by decide))) )
            intro v' w7 hC hv
            have e153 : v' 153 = .bool false := hv 153 (by decide)
            have hC7 := hid hC
            simp only [Tl.fill, List.drop]
            simp only [Act.put, List.setIfInBounds_toArray, List.set_cons_succ, List.set_cons_zero, e153]
            simp only [wpList]
            clear hv hC e153
            have hrow7 := own_below HOwnQ.out hC7.out (Nat.le_refl _)
            have hB7 := HBQ.out.trans (hC7.out.mono HBQ.out.size)
            have hs7 := hB7.size
            have HQ7 := HQH.out.below hC7.out HQL.out
            have hx2 : k + 1 ≤ m := hltk
            have hlk : (p.take k).length = k := by rw [List.length_take]; omega
            have HTN := hid (take_next p k hkp)
            have HLK := hid hlk
            rw [hlk] at hrow7
            clear hlk
            have HT42 : (42 : Nat) ≠ 9 := by decide
            have Q2v : (#[.string D, .int .i64 (pt : Int), .int .i64 (s.size : Int)] : Array Value)[2]? = some (.int .i64 (s.size : Int)) := rfl
            generalize u8 = v8 at *
            go_wp2_with (at_builtin; go_loud (refine wpList_append_own _ rfl _ _ 22 rfl w4.heap.size 9 i0 (.string ⟨#[]⟩) 1 16 Tryd.underlying22 hi hz0 hz1 hz2 rfl (by decide) v8 k _ rfl (hrow7.alloc _) ⟨w7.heap.size, 0, none⟩ 1 1 [.string s] rfl rfl (cell_one_new _ _ _) (by simp [Value.oneCell']) (by unfold maxLen; omega) (by omega) (by simp; omega) ?_; intro v' w8 hown' hgrow _; have qc2 := own_grow_cell hrow7 HQ7 HT42 hgrow Q2v))
            have HB8 : Hid (Below w4.heap.size w4 w8) := hid ((hB7.alloc hs7 _).grown hgrow (by simp; omega) (fun j hj => (hrow7.lt j hj).1))
            have HO8 : Hid (w8.ownsRow w4.heap.size 9 1 v' (p.take (k + 1)).length ((p.take (k + 1)).map Value.string)) := hid (by
              have e : (p.take (k + 1)).length = k + 1 := by rw [List.length_take]; omega
              rw [e, HTN.out, ← HSE.out, List.map_append]; exact hown')
            go_roundw
            case rel => exact ⟨k + 1, hx2, by rfl, by rfl, HO8, HB8⟩
            case measure => first | (simp [intOf]; done) | (simp [intOf]; omega)
        · obtain rfl : k = m := by omega
          have i3 : ¬ ((k : Int) < (k : Int)) := by omega
          have hkp : p.take k = p := by rw [HMM.out]; exact List.take_length
          have hown := HOwn.out
          rw [hkp, ← HMM.out] at hown
          obtain ⟨O, co, ev8, hl8, hx8⟩ := own_tx hown
          rw [← hl8] at ev8
          clear hl8
          obtain ⟨go8, oo8, eO, hgo8, co8⟩ := hx8 0 (by rw [← HMM.out]; omega)
          subst eO ev8
          have hall := own_below HAll4.out HB4.out (Nat.le_refl _)
          have hallb := HAll4.out.lt
          have hownb := hown.lt
          have HC5 := hid (HC4.out.trans (HB4.out.mono HC4.out.size))
          have hs5 := HC5.out.size
          have HX8 := hid hx8
          have HNews : Hid (∀ j u, (p.map Value.string)[j]? = some u → wr.cell? ((⟨go8, oo8, none⟩ : Addr).add j) = some u) := hid fun j u hu => by
            have hadd : (⟨go8, oo8, none⟩ : Addr).add j = ⟨go8, oo8 + j, none⟩ := by unfold Addr.add; split <;> simp_all
            have hj : j < p.length := by have := (List.getElem?_eq_some_iff.1 hu).1; rwa [List.length_map] at this
            obtain ⟨g2, o2, e2, _, h2⟩ := HX8.out j hj
            cases e2
            rw [hadd, h2]
            rw [List.getElem?_map, List.getElem?_eq_getElem hj] at hu
            rw [← Option.some.inj hu, List.getD_eq_getElem?_getD, List.getElem?_eq_getElem hj]; rfl
          have HFT := hid (flat_take HPX.out)
          have HLens : Hid ((((Gt.packs c).take i).flatten).length ≤ 4000) := hid (by
            have h1 : (((Gt.packs c).take i).flatten).length ≤ (Gt.packs c).flatten.length := by
              have e : Gt.packs c = (Gt.packs c).take i ++ (Gt.packs c).drop i := (List.take_append_drop _ _).symm
              conv => rhs; rw [e]
              rw [List.flatten_append, List.length_append]; omega
            have h2 := (firsts_sub c []).length_le
            rw [HFlat.out] at h1
            rw [← HNC.out] at h2
            omega)
          obtain ⟨nz, hnz⟩ : ∃ nz, nz = (((Gt.packs c).take i).flatten).length := ⟨_, rfl⟩
          have HNZ := hid hnz
          have hlens := HLens.out
          rw [← hnz] at hall hlens
          have HAllH := hid hall
          have HOwnH := hid hown
          have hne8 : Hid (∀ w5, wr.grownBy w5 u5.ownBlock → (w5.ownsRow w4.heap.size 9 1 (.slice (some ⟨go8, oo8, none⟩) k co) k (p.map Value.string)) ∧ Below w3.heap.size w3 w5) := hid fun w5 hg5 => by
            refine ⟨HOwnH.out.kept hg5 (.inr fun e => ?_), HC5.out.grown hg5 hs5 fun j hj => (HAll4.out.lt j hj).1⟩
            have h1 := (HAll4.out.lt go8 e.symm).2
            have h2 := (HOwnH.out.lt go8 rfl).1
            omega
          have hrnk : 1 ≤ k := hone
          have HLP : Hid ((p.map Value.string).length = k * 1) := hid (by rw [List.length_map, Nat.mul_one]; exact HMM.out.symm)
          have HOne : Hid (∀ u ∈ p.map Value.string, u.oneCell' = true) := hid (fun u hu => by obtain ⟨s, _, rfl⟩ := List.mem_map.1 hu; rfl)
          have hx5 : nz + k ≤ 100000 := by omega
          clear hkp hx8 co8 hown hnz hallb hownb hlens
          generalize u5 = v5 at *
          go_upto_region 26 with (at_builtin; go_loud (refine wpList_append_own _ rfl _ _ 22 rfl w3.heap.size 9 i0 (.string ⟨#[]⟩) 1 16 Tryd.underlying22 hi hz0 hz1 hz2 rfl (by decide) v5 nz _ rfl HAllH.out ⟨go8, oo8, none⟩ k co (p.map Value.string) rfl HLP.out HNews.out HOne.out (by unfold maxLen; omega) (by omega) hs5 ?_; intro vA w5 hown5 hgrow5 _))
          obtain ⟨j, hj⟩ : ∃ j, j = i + 1 := ⟨_, rfl⟩
          have HJ := hid hj
          have wij : IntKind.i64.wrap ((i : Int) + 1) = (j : Int) := by rw [IntKind.wrap_i64]; omega
          obtain ⟨z, hz⟩ : ∃ z, z = tot (p.take k) := ⟨_, rfl⟩
          have HZ : Hid (z = tot p) := hid (by rw [hz, HMM.out, List.take_length])
          rw [← hz]
          have hB5 := (hne8.out w5 hgrow5).2
          have HB5 := hid hB5
          have HO5 := hid (hne8.out w5 hgrow5).1
          have HA5 := hid hown5
          have HRoom : Hid (1 < k → z ≤ 4096) := hid (fun h1 => by
            rw [HZ.out]
            rcases HMp.out.room with e | e
            · rw [List.length_map, ← HMM.out] at e; omega
            · exact e)
          have HNext : Hid (j < n → ∃ (b2 m2 s2 : Nat), 1 ≤ m2 ∧ w5.cell? ⟨g, j * 4 + 3, none⟩ = some (.slice (some ⟨b2, 0, none⟩) m2 m2) ∧ w5.cell? ⟨b2, 2, none⟩ = some (.int .i64 (s2 : Int)) ∧ 4096 < z + s2 ∧ s2 ≤ 100000) := hid (fun hjn => by
            obtain ⟨⟨p2, a2, b2⟩, hx2⟩ : ∃ x, L[j]? = some x := ⟨_, List.getElem?_eq_getElem (by rw [← HN.out]; exact hjn)⟩
            obtain ⟨g2, e2, _, hg2, _, _, _, q3⟩ := HP.out.cells j _ hx2
            cases e2
            have hat2 := HP.out.each _ (List.mem_of_getElem? hx2)
            have hpx2 := map_get HM.out hx2
            have hM2 := HMay.out p2 (List.mem_of_getElem? hpx2)
            have hone2 := hM2.one
            rw [List.length_map] at hone2
            have hb2 := hat2.hb.below HB5.out hat2.hb.lt
            obtain ⟨_, _, u2⟩ := tC_cell hb2 0 _ (plT_get p2 0 (by omega))
            have ht2 := tight_get HTight.out HPX.out (by rw [← HJ.out]; exact hpx2) (by intro e; subst e; simp at hone2)
            have hs2 := tot_le (getD_mem (l := p2) (k := 0) (by omega))
            have hm2 := (may_tot hM2).2
            refine ⟨b2, p2.length, (p2.getD 0 ⟨#[]⟩).size, hone2, (HB5.out.cell (p := ⟨g, j * 4 + 3, none⟩) hg2).trans q3, u2, by rw [HZ.out]; exact ht2, by omega⟩)
          have hz9 : z ≤ 100000 := by have h1 := HZ.out; have h2 := (may_tot HMp.out).2; omega
          clear hz hj hown5 hgrow5 hB5 hne8 HAllH HOwnH HNews HLP HOne j3
          go_cut [192] from 38 to 237 (fun v192 wx => v192 = .bool false ∧ wx = w5)
          case first =>
            as_aux_lemma =>
              by_cases h1 : 1 < k
              · have hz4 := HRoom.out h1
                have d1 : decide ((1 : Int) < (k : Int)) = true := by simp; omega
                have d2 : decide ((4096 : Int) < (z : Int)) = false := by simp; omega
                by_cases h2 : j < n
                · obtain ⟨b2, m2, s2, g1, g2, g3, g4, g5⟩ := HNext.out h2
                  have d3 : decide ((j : Int) < (n : Int)) = true := by simp; omega
                  have d4 : decide ((z : Int) + (s2 : Int) ≤ 4096) = false := by simp; omega
                  have w4' : IntKind.i64.wrap ((z : Int) + (s2 : Int)) = (z : Int) + (s2 : Int) := by rw [IntKind.wrap_i64]; omega
                  have i4 : (j : Int) < (n : Int) := by omega
                  have i5 : (0 : Int) < (m2 : Int) := by omega
                  clear hz4 h1 h2 g1 g4 g5
                  go_wp2_with fail
                  go_meet
                  exact ⟨rfl, rfl⟩
                · have d3 : decide ((j : Int) < (n : Int)) = false := by simp; omega
                  have q3 : ¬ ((j : Int) < (n : Int)) := by omega
                  clear hz4 h1 h2
                  go_wp2_with fail
                  go_meet
                  exact ⟨rfl, rfl⟩
              · have d1 : decide ((1 : Int) < (k : Int)) = false := by simp; omega
                by_cases h2 : j < n
                · obtain ⟨b2, m2, s2, g1, g2, g3, g4, g5⟩ := HNext.out h2
                  have d3 : decide ((j : Int) < (n : Int)) = true := by simp; omega
                  have d4 : decide ((z : Int) + (s2 : Int) ≤ 4096) = false := by simp; omega
                  have w4' : IntKind.i64.wrap ((z : Int) + (s2 : Int)) = (z : Int) + (s2 : Int) := by rw [IntKind.wrap_i64]; omega
                  have i4 : (j : Int) < (n : Int) := by omega
                  have i5 : (0 : Int) < (m2 : Int) := by omega
                  clear h1 h2 g1 g4 g5
                  go_wp2_with fail
                  go_meet
                  exact ⟨rfl, rfl⟩
                · have d3 : decide ((j : Int) < (n : Int)) = false := by simp; omega
                  have q3 : ¬ ((j : Int) < (n : Int)) := by omega
                  clear h1 h2
                  go_wp2_with fail
                  go_meet
                  exact ⟨rfl, rfl⟩
          case rest =>
            as_aux_lemma =>
              obtain ⟨rfl, rfl⟩ := hcut
              clear HNext HRoom HZ hz9
              obtain ⟨O5, co5, e5, hl5, hx5'⟩ := own_tx HO5.out
              have e51 := (Value.slice.inj e5).1
              subst e51
              have HX5 := hid hx5'
              have HG1 := hid (fun W hT hX => gather_one (may_packs HMp.out) (some ⟨go8, oo8, none⟩) k co HMM.out.symm W hT hX (by rw [← HMM.out]; omega) (by have := (may_tot HMp.out).2; omega) (may_nobad HMp.out))
              clear e5 hl5 hx5'
              go_wp2_with fail
              refine (HG1.out _ (tabs_below HT.out HB5.out (Nat.le_refl _)) HX5.out).mono ?_
              rintro e w6 ⟨h, x6, c1, rfl, kh, _, hh, b6⟩
              rw [← HB.out] at kh
              have B6 := hid (HB5.out.trans (b6.mono HB5.out.size))
              have HA6 := hid (own_below HA5.out b6 (Nat.le_refl _))
              have KH6 := hid kh
              have HH6 := hid hh
              clear b6 kh hh HA5 HB5 HO5 HX5 HG1
              have kw6 := (B6.out.cell (p := ⟨g, i * 4, none⟩) HG.out).trans HK30.out
              go_wp2_with fail
              refine (HRd.out _).mono ?_
              rintro e ws ⟨gr, gr', rfl, _, _, b7⟩
              have KH := hid ((b7.cell (p := ⟨h, 0, none⟩) HH6.out).trans KH6.out)
              have HH := hid (Nat.lt_of_lt_of_le HH6.out b7.size)
              have B7 := hid (B6.out.trans (b7.mono B6.out.size))
              have HA7 := hid (own_below HA6.out b7 (Nat.le_refl _))
              have HKS0 := hid ((B7.out.cell (p := ⟨g, i * 4, none⟩) HG.out).trans HK30.out)
              have HGS := hid (Nat.lt_of_lt_of_le HG.out B7.out.size)
              clear b7 KH6 HH6 B6 HA6 kw6
              obtain ⟨O, hO⟩ : ∃ O : Option Addr, O = some ⟨go8, oo8, none⟩ := ⟨_, rfl⟩
              rw [← hO]
              obtain ⟨R, hR⟩ : ∃ R : Option Addr, R = some ⟨gr, 0, none⟩ := ⟨_, rfl⟩
              rw [← hR]
              clear hO hR
              go_wp2_with fail
              refine Tl.wp_mix_lit (by kernel_rfl) 30 [208, 209, 210, 211, 212, 213, 214, 215, 216, 217, 218, 219, 220, 221, 222, 223, 224, 225, 226, 227, 228, 229, 230, 231, 232, 233, 234, 235, 236, 237] 283 rfl (by kernel_rfl) (fun W => Below ws.heap.size ws W) (oF30 g n cap i h c1 k co R O B) (Below.refl _ _).drew
                ⟨fun a' W' hC hF => ?_, fun a' W' hC hF => ?_, fun a' W' hC hF => ?_, fun a' W' hC hF => ?_, fun a' W' hC hF => ?_, fun a' W' hC hF => ?_, fun a' W' hC hF => ?_, fun a' W' hC hF => ?_, fun a' W' hC hF => ?_, fun a' W' hC hF => ?_, fun a' W' hC hF => ?_, fun a' W' hC hF => ?_, fun a' W' hC hF => ?_, fun a' W' hC hF => ?_, fun a' W' hC hF => ?_, fun a' W' hC hF => ?_, fun a' W' hC hF => ?_, fun a' W' hC hF => ?_, fun a' W' hC hF => ?_, fun a' W' hC hF => ?_, fun a' W' hC hF => ?_, fun a' W' hC hF => ?_, fun a' W' hC hF => ?_, fun a' W' hC hF => ?_, fun a' W' hC hF => ?_, fun a' W' hC hF => ?_, fun a' W' hC hF => ?_, fun a' W' hC hF => ?_, fun a' W' hC hF => ?_, fun a' W' hC hF => ?_, trivial⟩ ?_
              · exact Tl.sm_v 208 _ rfl (Tl.wanted_none rfl) hC rfl (rn_move rfl ((hF 13 (by decide +kernel)).2 (by decide)))
              · exact Tl.sm_v 209 _ rfl (Tl.wanted_none rfl) hC rfl (rn_neq26 rfl (show Act.eval a' (.tmp 208) = .int .i64 0 from ((hF 208 (by decide +kernel)).1 (by decide))) rfl rfl)
              · exact Tl.sm_v 210 _ rfl (Tl.wanted_none rfl) hC rfl (rn_move rfl (show Act.eval a' (.tmp 209) = .bool false from ((hF 209 (by decide +kernel)).1 (by decide))))
              · exact Tl.sm_v 211 _ rfl (Tl.wanted_is rfl rfl (show Act.eval a' (.tmp 210) = .bool false from ((hF 210 (by decide +kernel)).1 (by decide)))) hC rfl (rn_move rfl ((hF 12 (by decide +kernel)).2 (by decide)))
              · exact Tl.sm_v 212 _ rfl (Tl.wanted_is rfl rfl (show Act.eval a' (.tmp 210) = .bool false from ((hF 210 (by decide +kernel)).1 (by decide)))) hC rfl (rn_len25 rfl (show Act.eval a' (.tmp 211) = .slice (some ⟨h, 0, none⟩) 1 c1 from ((hF 211 (by decide +kernel)).1 (by decide))) )
              · exact Tl.sm_v 213 _ rfl (Tl.wanted_is rfl rfl (show Act.eval a' (.tmp 210) = .bool false from ((hF 210 (by decide +kernel)).1 (by decide)))) hC rfl (rn_neq3 rfl (show Act.eval a' (.tmp 212) = .int .i64 1 from ((hF 212 (by decide +kernel)).1 (by decide))) rfl rfl)
              · exact Tl.sm_v 214 _ rfl (Tl.wanted_none rfl) hC rfl (rn_pickF rfl (show Act.eval a' (.tmp 210) = .bool false from ((hF 210 (by decide +kernel)).1 (by decide))) (show Act.eval a' (.tmp 213) = .bool false from ((hF 213 (by decide +kernel)).1 (by decide))))
              · exact Tl.sm_v 215 _ rfl (Tl.wanted_none rfl) hC rfl (rn_move rfl (show Act.eval a' (.tmp 214) = .bool false from ((hF 214 (by decide +kernel)).1 (by decide))))
              · exact Tl.sm_v 216 _ rfl (Tl.wanted_is rfl rfl (show Act.eval a' (.tmp 215) = .bool false from ((hF 215 (by decide +kernel)).1 (by decide)))) hC rfl (rn_move rfl ((hF 12 (by decide +kernel)).2 (by decide)))
              · exact Tl.sm_v 217 _ rfl (Tl.wanted_is rfl rfl (show Act.eval a' (.tmp 215) = .bool false from ((hF 215 (by decide +kernel)).1 (by decide)))) hC rfl (rn_ix25 (i := 0) rfl (show Act.eval a' (.tmp 216) = .slice (some ⟨h, 0, none⟩) 1 c1 from ((hF 216 (by decide +kernel)).1 (by decide))) rfl ((by decide)))
              · exact Tl.sm_v 218 _ rfl (Tl.wanted_is rfl rfl (show Act.eval a' (.tmp 215) = .bool false from ((hF 215 (by decide +kernel)).1 (by decide)))) hC rfl (rn_fa39_0 rfl (show Act.eval a' (.tmp 217) = .pointer (some ⟨h, 0, none⟩) from ((hF 217 (by decide +kernel)).1 (by decide))))
              · exact Tl.sm_v 219 _ rfl (Tl.wanted_is rfl rfl (show Act.eval a' (.tmp 215) = .bool false from ((hF 215 (by decide +kernel)).1 (by decide)))) hC rfl (rn_load9 rfl (show Act.eval a' (.tmp 218) = .pointer (some ⟨h, 0, none⟩) from ((hF 218 (by decide +kernel)).1 (by decide))) ((hC.cell (p := ⟨h, 0, none⟩) HH.out).trans KH.out))
              · exact Tl.sm_v 220 _ rfl (Tl.wanted_is rfl rfl (show Act.eval a' (.tmp 215) = .bool false from ((hF 215 (by decide +kernel)).1 (by decide)))) hC rfl (rn_move rfl ((hF 3 (by decide +kernel)).2 (by decide)))
              · exact Tl.sm_v 221 _ rfl (Tl.wanted_is rfl rfl (show Act.eval a' (.tmp 215) = .bool false from ((hF 215 (by decide +kernel)).1 (by decide)))) hC rfl (rn_move rfl ((hF 6 (by decide +kernel)).2 (by decide)))
              · exact Tl.sm_v 222 _ rfl (Tl.wanted_is rfl rfl (show Act.eval a' (.tmp 215) = .bool false from ((hF 215 (by decide +kernel)).1 (by decide)))) hC rfl (rn_ix25 rfl (show Act.eval a' (.tmp 220) = .slice (some ⟨g, 0, none⟩) n cap from ((hF 220 (by decide +kernel)).1 (by decide))) (show Act.eval a' (.tmp 221) = .int .i64 (i : Int) from ((hF 221 (by decide +kernel)).1 (by decide))) HI.out)
              · exact Tl.sm_v 223 _ rfl (Tl.wanted_is rfl rfl (show Act.eval a' (.tmp 215) = .bool false from ((hF 215 (by decide +kernel)).1 (by decide)))) hC rfl (rn_fa39_0 rfl (show Act.eval a' (.tmp 222) = .pointer (some ⟨g, i * 4, none⟩) from ((hF 222 (by decide +kernel)).1 (by decide))))
              · exact Tl.sm_v 224 _ rfl (Tl.wanted_is rfl rfl (show Act.eval a' (.tmp 215) = .bool false from ((hF 215 (by decide +kernel)).1 (by decide)))) hC rfl (rn_load9 rfl (show Act.eval a' (.tmp 223) = .pointer (some ⟨g, i * 4, none⟩) from ((hF 223 (by decide +kernel)).1 (by decide))) ((hC.cell (p := ⟨g, i * 4, none⟩) HGS.out).trans HKS0.out))
              · exact Tl.sm_v 225 _ rfl (Tl.wanted_is rfl rfl (show Act.eval a' (.tmp 215) = .bool false from ((hF 215 (by decide +kernel)).1 (by decide)))) hC rfl (rn_neq9 rfl (show Act.eval a' (.tmp 219) = .string B from ((hF 219 (by decide +kernel)).1 (by decide))) (show Act.eval a' (.tmp 224) = .string B from ((hF 224 (by decide +kernel)).1 (by decide))) )
              · exact Tl.sm_v 226 _ rfl (Tl.wanted_none rfl) hC rfl (rn_pickF rfl (show Act.eval a' (.tmp 215) = .bool false from ((hF 215 (by decide +kernel)).1 (by decide))) (show Act.eval a' (.tmp 225) = .bool false from ((hF 225 (by decide +kernel)).1 (by decide))))
              · exact Tl.sm_v 227 _ rfl (Tl.wanted_none rfl) hC rfl (rn_move rfl (show Act.eval a' (.tmp 226) = .bool false from ((hF 226 (by decide +kernel)).1 (by decide))))
              · exact Tl.sm_v 228 _ rfl (Tl.wanted_is rfl rfl (show Act.eval a' (.tmp 227) = .bool false from ((hF 227 (by decide +kernel)).1 (by decide)))) hC rfl (rn_move rfl ((hF 16 (by decide +kernel)).2 (by decide)))
              · exact Tl.sm_v 229 _ rfl (Tl.wanted_is rfl rfl (show Act.eval a' (.tmp 227) = .bool false from ((hF 227 (by decide +kernel)).1 (by decide)))) hC rfl (rn_neq26 rfl (show Act.eval a' (.tmp 228) = .int .i64 0 from ((hF 228 (by decide +kernel)).1 (by decide))) rfl rfl)
              · exact Tl.sm_v 230 _ rfl (Tl.wanted_none rfl) hC rfl (rn_pickF rfl (show Act.eval a' (.tmp 227) = .bool false from ((hF 227 (by decide +kernel)).1 (by decide))) (show Act.eval a' (.tmp 229) = .bool false from ((hF 229 (by decide +kernel)).1 (by decide))))
              · exact Tl.sm_v 231 _ rfl (Tl.wanted_none rfl) hC rfl (rn_move rfl (show Act.eval a' (.tmp 230) = .bool false from ((hF 230 (by decide +kernel)).1 (by decide))))
              · exact Tl.sm_v 232 _ rfl (Tl.wanted_is rfl rfl (show Act.eval a' (.tmp 231) = .bool false from ((hF 231 (by decide +kernel)).1 (by decide)))) hC rfl (rn_move rfl ((hF 14 (by decide +kernel)).2 (by decide)))
              · exact Tl.sm_v 233 _ rfl (Tl.wanted_is rfl rfl (show Act.eval a' (.tmp 231) = .bool false from ((hF 231 (by decide +kernel)).1 (by decide)))) hC rfl (rn_len22 rfl (show Act.eval a' (.tmp 232) = .slice R k k from ((hF 232 (by decide +kernel)).1 (by decide))) )
              · exact Tl.sm_v 234 _ rfl (Tl.wanted_is rfl rfl (show Act.eval a' (.tmp 231) = .bool false from ((hF 231 (by decide +kernel)).1 (by decide)))) hC rfl (rn_move rfl ((hF 8 (by decide +kernel)).2 (by decide)))
              · exact Tl.sm_v 235 _ rfl (Tl.wanted_is rfl rfl (show Act.eval a' (.tmp 231) = .bool false from ((hF 231 (by decide +kernel)).1 (by decide)))) hC rfl (rn_len22 rfl (show Act.eval a' (.tmp 234) = .slice O k co from ((hF 234 (by decide +kernel)).1 (by decide))) )
              · exact Tl.sm_v 236 _ rfl (Tl.wanted_is rfl rfl (show Act.eval a' (.tmp 231) = .bool false from ((hF 231 (by decide +kernel)).1 (by decide)))) hC rfl (rn_neq3 rfl (show Act.eval a' (.tmp 233) = .int .i64 (k : Int) from ((hF 233 (by decide +kernel)).1 (by decide))) (show Act.eval a' (.tmp 235) = .int .i64 (k : Int) from ((hF 235 (by decide +kernel)).1 (by decide))) ((by simp)))
              · exact Tl.sm_v 237 _ rfl (Tl.wanted_none rfl) hC rfl (rn_pickF rfl (show Act.eval a' (.tmp 231) = .bool false from ((hF 231 (by decide +kernel)).1 (by decide))) (show Act.eval a' (.tmp 236) = .bool false from ((hF 236 (by decide +kernel)).1 (by decide))))
              intro v' w8 hC hv
              have e237 : v' 237 = .bool false := hv 237 (by decide)
              have hC8 := hid hC
              simp only [Tl.fill, List.drop]
              simp only [Act.put, List.setIfInBounds_toArray, List.set_cons_succ, List.set_cons_zero, e237]
              simp only [wpList]
              clear hv hC e237
              go_wp2_with fail
              have HB9 := hid (B7.out.trans (hC8.out.mono B7.out.size))
              have HA8 := hid (own_below HA7.out hC8.out (Nat.le_refl _))
              have hjn : j ≤ n := by have := HJ.out; omega
              have HA9 : Hid (w8.ownsRow w3.heap.size 9 1 vA (((Gt.packs c).take j).flatten).length ((((Gt.packs c).take j).flatten).map Value.string)) := hid (by
                rw [HJ.out, HFT.out, List.length_append, List.map_append, ← HNZ.out, ← HMM.out]; exact HA8.out)
              have hij : i + 1 = j := HJ.out.symm
              go_roundw
              case rel =>
                exact ⟨j, hjn, rfl, HA9, HB9⟩
              case measure => first | (simp [intOf]; done) | (simp [intOf]; omega)
    · as_aux_lemma =>
        obtain rfl : i = n := by omega
        have i1 : ¬ ((i : Int) < (i : Int)) := by omega
        have hEnd : (Gt.packs c).take i = Gt.packs c := List.take_of_length_le (by rw [← HM.out, List.length_map, ← HN.out]; exact Nat.le_refl _)
        have hall := HAll.out
        rw [hEnd, HFlat.out] at hall
        obtain ⟨O, co, e5, hl5, hx5⟩ := own_tx hall
        subst e5
        have HX := hid hx5
        have HBw := hid (B3.out.trans (HC.out.mono B3.out.size))
        have HLw := hid (HL3.out.below HC.out)
        have HTw := hid (tabs_below HT.out HC.out (Nat.le_refl _))
        obtain ⟨F, hF⟩ : ∃ F, F = Gt.firsts [] c := ⟨_, rfl⟩
        have HF := hid hF
        rw [← hF] at HX ⊢
        obtain ⟨nf, hnf⟩ : ∃ nf, nf = F.length := ⟨_, rfl⟩
        have HNF := hid hnf
        have hnf9 : nf ≤ 4000 := by
          have h2 := (firsts_sub c []).length_le
          rw [← HNC.out, ← HF.out, ← HNF.out] at h2
          omega
        rw [← hnf]
        clear hEnd hall hl5 hx5 hF hnf HAll HC
        go_wp2_with fail
        generalize wr = w9 at *
        go_loopw [17, 18, 19, 20] (fun v17 v18 _ _ wz => ∃ x f : Nat, x ≤ nc ∧ v18 = .int .i64 (x : Int) ∧ v17 = .int .i64 (f : Int) ∧ Hid (f = (Gt.firsts [] (c.take x)).length) ∧ f ≤ nf ∧ Hid (Below w9.heap.size w9 wz)) (fun _ v18 _ _ _ => nc - (intOf v18).toNat)
        case atStart => exact ⟨0, 0, Nat.zero_le _, rfl, rfl, by simp [Gt.firsts, Hid], Nat.zero_le _, Below.refl _ _⟩
        case round =>
          obtain ⟨x, f, hx, rfl, rfl, HFx, hfn, HZ⟩ := hrel
          by_cases hlt : x < nc
          · have hxc : x < c.length := by rw [← HNC.out]; exact hlt
            obtain ⟨gc, oc, rfl, hgc, c0⟩ := tx_cell HLw.out HZ.out hxc
            have HC0 := hid ((HLw.out x hxc))
            obtain ⟨s, hs⟩ : ∃ s, s = c.getD x ⟨#[]⟩ := ⟨_, rfl⟩
            have HS := hid hs
            rw [← hs] at c0
            clear hs
            have i3 : (x : Int) < (nc : Int) := by omega
            have i30 : (0 : Int) ≤ (x : Int) := by omega
            have wx : IntKind.i64.wrap ((x : Int) + 1) = ((x + 1 : Nat) : Int) := by rw [IntKind.wrap_i64]; omega
            clear HC0
            generalize wr = wz at *
            have HGC := hid hgc
            have HCx := hid c0
            clear hgc c0
            go_wp2_with fail
            go_loopw [19, 20] (fun v19 v20 wy => ∃ k : Nat, k ≤ x ∧ v20 = .int .i64 (k : Int) ∧ v19 = .bool (inB (c.take k) s) ∧ Hid (Below wz.heap.size wz wy)) (fun _ v20 _ => x - (intOf v20).toNat)
            case atStart => exact ⟨0, Nat.zero_le _, rfl, rfl, Below.refl _ _⟩
            case round =>
              obtain ⟨k, hk, rfl, rfl, HY⟩ := hrel
              have HZY := hid (HZ.out.trans (HY.out.mono HZ.out.size))
              by_cases hlk : k < x
              · have hkc : k < c.length := by omega
                obtain ⟨g2, o2, e2, hg2, c1⟩ := tx_cell HLw.out HZY.out hkc
                cases e2
                have hnx := inB_next hkc s
                obtain ⟨y, hy⟩ : ∃ y, y = c.getD k ⟨#[]⟩ := ⟨_, rfl⟩
                rw [← hy] at c1 hnx
                have c2 := (HY.out.cell (p := ⟨gc, oc + x, none⟩) (Nat.lt_of_lt_of_le HGC.out HZ.out.size)).trans HCx.out
                obtain ⟨t1, ht1⟩ : ∃ t1, t1 = inB (c.take (k + 1)) s := ⟨_, rfl⟩
                have HT1 := hid ht1
                rw [← ht1] at hnx
                have i4 : (k : Int) < (x : Int) := by omega
                have i5 : (k : Int) < (nc : Int) := by omega
                have i40 : (0 : Int) ≤ (k : Int) := by omega
                have wk : IntKind.i64.wrap ((k : Int) + 1) = ((k + 1 : Nat) : Int) := by rw [IntKind.wrap_i64]; omega
                have hk1 : k + 1 ≤ x := hlk
                clear hy ht1 hg2
                cases ht : inB (c.take k) s with
                | true =>
                  rw [ht] at hnx
                  have hnx : t1 = true := by rw [hnx]; rfl
                  have HE := hid hnx
                  clear hnx ht
                  go_wp2_with fail
                  go_quiet (fail)
                  go_wp2_with fail
                  go_roundw
                  case rel => exact ⟨k + 1, hk1, by rfl, by rw [← HT1.out, HE.out], below_draws HY.out _⟩
                  case measure => first | (simp [intOf]; done) | (simp [intOf]; omega)
                | false =>
                  rw [ht] at hnx
                  clear ht
                  by_cases hys : y = s
                  · subst hys
                    have hnx : t1 = true := by rw [hnx]; simp
                    have HE := hid hnx
                    clear hnx
                    go_wp2_with fail
                    go_quiet (fail)
                    go_wp2_with fail
                    go_roundw
                    case rel => exact ⟨k + 1, hk1, by rfl, by rw [← HT1.out, HE.out], below_draws HY.out _⟩
                    case measure => first | (simp [intOf]; done) | (simp [intOf]; omega)
                  · have hnx : t1 = false := by rw [hnx, decide_eq_false hys]; rfl
                    have HE := hid hnx
                    have hq := str_ne hys
                    clear hnx
                    go_wp2_with fail
                    go_quiet (fail)
                    go_wp2_with fail
                    go_roundw
                    case rel => exact ⟨k + 1, hk1, by rfl, by rw [← HT1.out, HE.out], below_draws HY.out _⟩
                    case measure => first | (simp [intOf]; done) | (simp [intOf]; omega)
              · obtain rfl : k = x := by omega
                have i4 : ¬ ((k : Int) < (k : Int)) := by omega
                have HZY2 := hid HZY.out
                cases ht : inB (c.take k) s with
                | true =>
                  have HFn : Hid (f = (Gt.firsts [] (c.take (k + 1))).length) := hid (by rw [HFx.out, firsts_met' hxc (by rw [← HS.out]; exact ht)])
                  clear ht
                  have hk1 : k + 1 ≤ nc := hlt
                  go_wp2_with fail
                  go_roundw
                  case rel => exact ⟨k + 1, f, hk1, by rfl, by rfl, HFn, hfn, HZY⟩
                  case measure => first | (simp [intOf]; done) | (simp [intOf]; omega)
                | false =>
                  obtain ⟨a1, a2, a3⟩ := firsts_at hxc (by rw [← HS.out]; exact ht)
                  rw [← HS.out, ← HFx.out, ← HF.out] at a2
                  rw [← HFx.out, ← HF.out, ← HNF.out] at a1
                  rw [← HFx.out] at a3
                  have HFn : Hid (f + 1 = (Gt.firsts [] (c.take (k + 1))).length) := hid a3.symm
                  obtain ⟨g2, o2, rfl, hg2, c1⟩ := tx_cell HX.out HZY.out (by rw [← HNF.out]; exact a1)
                  rw [a2] at c1
                  have c2 := (HZY.out.cell (p := ⟨gc, oc + k, none⟩) HGC.out)
                  have c3 := (HY.out.cell (p := ⟨gc, oc + k, none⟩) (Nat.lt_of_lt_of_le HGC.out HZ.out.size)).trans HCx.out
                  have i6 : (f : Int) < (nf : Int) := by omega
                  have i60 : (0 : Int) ≤ (f : Int) := by omega
                  have wf : IntKind.i64.wrap ((f : Int) + 1) = ((f + 1 : Nat) : Int) := by rw [IntKind.wrap_i64]; omega
                  have hk1 : k + 1 ≤ nc := hlt
                  have hf1 : f + 1 ≤ nf := a1
                  have d6 : decide ((nf : Int) ≤ (f : Int)) = false := by simp; omega
                  have q6 : ¬ ((nf : Int) ≤ (f : Int)) := by omega
                  have q7 : ¬ (nf ≤ f) := by omega
                  have d7 : decide (nf ≤ f) = false := by simp; omega
                  have d8 : decide ((f : Int) ≥ (nf : Int)) = false := by simp; omega
                  clear ht a1 a2 a3 c2 hg2
                  go_wp2_with fail
                  go_quiet (fail)
                  go_wp2_with fail
                  go_roundw
                  case rel => exact ⟨k + 1, f + 1, hk1, by rfl, by rfl, HFn, hf1, below_draws HZY.out _⟩
                  case measure => first | (simp [intOf]; done) | (simp [intOf]; omega)
          · obtain rfl : x = nc := by omega
            have i3 : ¬ ((x : Int) < (x : Int)) := by omega
            have HEq : Hid (f = nf) := hid (by rw [HFx.out, HNF.out, HF.out, HNC.out, List.take_length])
            have hq : ((f : Int) == (nf : Int)) = true := by rw [HEq.out]; simp
            have HBB := hid (HBw.out.trans (HZ.out.mono HBw.out.size))
            have hq2 : f = nf := HEq.out
            go_wp2_with fail
            go_ret
            exact ⟨by simp, HBB.out⟩
theorem once_walk (l : List ByteArray) (A : Option Addr) (cap : Nat) (w : World) (ht : S.Tabs w) (h : Tx w A l) (hl : l.length ≤ 9223372036854775807) (hs : ∀ s ∈ l, s.size ≤ 9223372036850000000) :
    Calls Tryd.prog 5 #[.slice A l.length cap] w fun e w' => e = .returned (.bool true) ∧ Below w.heap.size w w' := by
  cases hb : lgS 0 l with
  | true => exact once_far l A cap w ht h hl hs hb
  | false =>
    cases hbad : badB l with
    | true => exact once_bad l A cap w ht h hl hs hb hbad
    | false => exact once_good l A cap w ht h hl hs hb hbad
end Go.Proofs.YtjhjolnflkekoaaDoor
