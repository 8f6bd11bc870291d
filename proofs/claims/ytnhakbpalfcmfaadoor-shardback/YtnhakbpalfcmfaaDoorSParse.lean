/- The contract of Parse. -/
import Derived.Test.YtnhakbpalfcmfaaDoorSName
import Derived.Lib.IndexLaws
import Derived.Lib.AtoiBound
import Derived.Lib.AtoiErrMem
/- strings.Cut at a dot. -/
namespace Go.Proofs.YtnhakbpalfcmfaaDoor
open Go.RowKit
theorem str_ne {a b : ByteArray} (h : bs a ≠ bs b) : (a.toList == b.toList) = false := by
  rw [beq_eq_false_iff_ne]
  intro e
  rw [ByteArray.toList_eq, ByteArray.toList_eq] at e
  exact h (by unfold bs; rw [e])
theorem one_list {s : ByteArray} (h : ([46] == s.toList) = true) : s = ⟨#[46]⟩ := by
  have e : [46] = s.toList := by simpa using h
  rw [ByteArray.toList_eq] at e
  apply ByteArray.ext
  apply Array.toList_inj.1
  rw [← e]
set_option maxRecDepth 20000 in
theorem index_any (s : ByteArray) (hs : s.size ≤ 1000) (w : World) :
    Calls Tryd.prog 56 #[.string s, .string ⟨#[46]⟩] w fun e w' => e = .returned (.int .i64 (Lib.indexByte s.data.toList 46)) ∧ w' = w := by
  have HI : ∀ w, Calls Tryd.prog 57 #[.string s, .int .u8 46] w fun e w' => e = .returned (.int .i64 (Lib.indexByte s.data.toList 46)) ∧ w' = w := by
    intro w
    refine (Tryd.stringslite_IndexByte s 46 w).mono ?_
    rintro e w' ⟨rfl, rfl⟩
    exact ⟨by rw [show ((46 : Int).toNat.toUInt8) = (46 : UInt8) from rfl], rfl⟩
  by_cases q : ([46] == s.toList) = true
  · obtain rfl := one_list q
    go_enter Tryd.func56, Tryd.ntmps56
    go_wp2_with fail
    go_ret
    exact ⟨rfl, rfl⟩
  · have q : ([46] == s.toList) = false := by simpa using q
    generalize Lib.indexByte s.data.toList 46 = z at *
    go_enter Tryd.func56, Tryd.ntmps56
    go_wp2_with (go_at_call 57; refine (HI _).mono ?_; rintro e w' ⟨rfl, rfl⟩)
    go_ret
    exact ⟨rfl, rfl⟩
set_option maxRecDepth 20000 in
theorem cut_no (s : ByteArray) (hs : s.size ≤ 1000) (hz : Lib.indexByte s.data.toList 46 = -1) (w : World) :
    Calls Tryd.prog 22 #[.string s, .string ⟨#[46]⟩] w fun e w' => e = .returned (.tuple #[.string s, .string ⟨#[]⟩, .bool false]) ∧ w' = w := by
  have HI := fun w => index_any s hs w
  rw [hz] at HI
  clear hz
  have HC : Calls Tryd.prog 40 #[.string s, .string ⟨#[46]⟩] w fun e w' => e = .returned (.tuple #[.string s, .string ⟨#[]⟩, .bool false]) ∧ w' = w := by
    go_enter Tryd.func40, Tryd.ntmps40
    go_wp2_with (go_at_call 56; refine (HI _).mono ?_; rintro e w' ⟨rfl, rfl⟩)
    go_ret3
    exact ⟨rfl, rfl⟩
  clear HI
  go_enter Tryd.func22, Tryd.ntmps22
  go_wp2_with fail
  refine HC.mono ?_
  rintro e w' ⟨rfl, rfl⟩
  go_wp2_with fail
  go_ret3
  exact ⟨rfl, rfl⟩
set_option maxRecDepth 20000 in
theorem cut_at (s : ByteArray) (hs : s.size ≤ 1000) (k : Nat) (hk : k < s.size) (hz : Lib.indexByte s.data.toList 46 = (k : Int)) (w : World) :
    Calls Tryd.prog 22 #[.string s, .string ⟨#[46]⟩] w fun e w' => e = .returned (.tuple #[.string (s.extract 0 k), .string (s.extract (k + 1) s.size), .bool true]) ∧ Below w.heap.size w w' := by
  have HI := fun w => index_any s hs w
  rw [hz] at HI
  clear hz
  have HC : Calls Tryd.prog 40 #[.string s, .string ⟨#[46]⟩] w fun e w' => e = .returned (.tuple #[.string (s.extract 0 k), .string (s.extract (k + 1) s.size), .bool true]) ∧ Below w.heap.size w w' := by
    go_enter Tryd.func40, Tryd.ntmps40
    go_wp2_with (go_at_call 56; refine (HI _).mono ?_; rintro e w' ⟨rfl, rfl⟩)
    have k1 : (k : Int) ≤ (s.size : Int) := by omega
    have k2 : (k : Int) + 1 ≤ (s.size : Int) := by omega
    go_region
    go_wp2_with fail
    go_ret3
    exact ⟨rfl, below_draws (Below.refl _ _) 1⟩
  clear HI
  go_enter Tryd.func22, Tryd.ntmps22
  go_wp2_with fail
  refine HC.mono ?_
  rintro e w' ⟨rfl, hb⟩
  go_wp2_with fail
  go_ret3
  exact ⟨rfl, hb⟩
/-- what Cut at a dot tells, whatever it is handed -/
theorem cut_any (s : ByteArray) (hs : s.size ≤ 1000) (w : World) :
    Calls Tryd.prog 22 #[.string s, .string ⟨#[46]⟩] w fun e w' => ((∃ k, k < s.size ∧ Lib.indexByte s.data.toList 46 = (k : Int) ∧ e = .returned (.tuple #[.string (s.extract 0 k), .string (s.extract (k + 1) s.size), .bool true])) ∨ (Lib.indexByte s.data.toList 46 = -1 ∧ e = .returned (.tuple #[.string s, .string ⟨#[]⟩, .bool false]))) ∧ Below w.heap.size w w' := by
  have hge := Lib.indexByte_ge s.data.toList 46
  by_cases hz : Lib.indexByte s.data.toList 46 = -1
  · refine (cut_no s hs hz w).mono ?_
    rintro e w' ⟨rfl, rfl⟩
    exact ⟨.inr ⟨hz, rfl⟩, Below.refl _ _⟩
  · obtain ⟨k, hk⟩ := Int.eq_ofNat_of_zero_le (show 0 ≤ Lib.indexByte s.data.toList 46 by omega)
    have hlt : k < s.size := by
      have h1 := (Lib.indexByte_some hk).1
      have h2 := (List.getElem?_eq_some_iff.1 h1).1
      simpa using h2
    refine (cut_at s hs k hlt hk w).mono ?_
    rintro e w' ⟨rfl, hb⟩
    exact ⟨.inl ⟨k, hlt, hk, rfl⟩, hb⟩
end Go.Proofs.YtnhakbpalfcmfaaDoor
namespace Go.Proofs.YtnhakbpalfcmfaaDoor
open Go.RowKit
theorem bs_extract (s : ByteArray) (a b : Nat) : bs (s.extract a b) = ((bs s).take b).drop a := by
  have e : (s.extract a b).data.toList = (s.data.toList.take b).drop a := by
    rw [ByteArray.data_extract, Array.toList_extract, List.extract_eq_take_drop, List.drop_take]
  unfold bs; rw [e, List.map_drop, List.map_take]
/-- s is the name of the object of a shard of the digest d, of the number i -/
def IsN (s d : ByteArray) (i : Nat) : Prop := d.size = 32 ∧ i < 12 ∧ s = ofBs (nm (bs d) (i : Int))
theorem nm_lt (d : ByteArray) (i : Int) : ∀ x ∈ nm (bs d) i, x < 256 := by
  intro x hx
  simp only [nm, List.mem_append, List.mem_singleton] at hx
  rcases hx with (hx | rfl) | hx
  · exact hex_lt _ (bs_lt d) x hx
  · decide
  · exact dec_lt i x hx
theorem dec12 : ∀ i : Fin 12, (dec (i.val : Int)).length ≤ 2 := by decide +kernel
theorem dec12_pos : ∀ i : Fin 12, 1 ≤ (dec (i.val : Int)).length := by decide +kernel
theorem atoi12 : ∀ i : Fin 12, Lib.atoi (Lib.itoa (i.val : Int)) = some (i.val : Int) := by decide +kernel
theorem hexChar_ne (n : Nat) (h : n < 16) : Sha.hexChar n ≠ 46 := by unfold Sha.hexChar; split <;> omega
theorem hex_no_dot (l : List Nat) (h : ∀ x ∈ l, x < 256) : ∀ x ∈ Sha.hex l, x ≠ 46 := by
  intro x hx
  simp only [Sha.hex, List.mem_flatMap, List.mem_cons, List.not_mem_nil, or_false] at hx
  obtain ⟨y, hy, hx⟩ := hx
  have := h y hy
  rcases hx with rfl | rfl
  · exact hexChar_ne _ (by omega)
  · exact hexChar_ne _ (by omega)
theorem nm_length {d : ByteArray} {i : Nat} (hd : d.size = 32) (hi : i < 12) : 66 ≤ (nm (bs d) (i : Int)).length ∧ (nm (bs d) (i : Int)).length ≤ 67 := by
  have h1 := dec12 ⟨i, hi⟩
  have h2 := dec12_pos ⟨i, hi⟩
  simp only at h1 h2
  simp only [nm, List.length_append, hex_length, bs_length, hd, List.length_singleton]
  omega
theorem data_bs (s : ByteArray) (j : Nat) (b : UInt8) (h : s.data.toList[j]? = some b) : (bs s)[j]? = some b.toNat := by
  unfold bs; rw [List.getElem?_map, h]; rfl
/-- the dot of a name is its first one -/
theorem nm_dot {s d : ByteArray} {i : Nat} (h : IsN s d i) : Lib.indexByte s.data.toList 46 = 64 := by
  obtain ⟨hd, hi, rfl⟩ := h
  have hb := bs_ofBs _ (nm_lt d (i : Int))
  have hlen := nm_length hd hi
  have hx : (Sha.hex (bs d)).length = 64 := by rw [hex_length, bs_length, hd]
  have h64 : (nm (bs d) (i : Int))[64]? = some 46 := by
    unfold nm
    rw [List.append_assoc, List.getElem?_append_right (by omega), hx]; rfl
  have hlow : ∀ j, j < 64 → (nm (bs d) (i : Int))[j]? ≠ some 46 := by
    intro j hj e
    unfold nm at e
    rw [List.append_assoc, List.getElem?_append_left (by omega)] at e
    exact hex_no_dot _ (bs_lt d) 46 (List.mem_of_getElem? e) rfl
  generalize ofBs (nm (bs d) (i : Int)) = s at *
  rw [← hb] at h64 hlow hlen
  have hge := Lib.indexByte_ge s.data.toList 46
  by_cases hz : Lib.indexByte s.data.toList 46 = -1
  · exfalso
    have h1 := Lib.indexByte_none hz 64
    unfold bs at h64
    rw [List.getElem?_map] at h64
    cases q : s.data.toList[64]? with
    | none => rw [q] at h64; simp at h64
    | some b =>
      rw [q] at h64 h1
      simp only [Option.map_some, Option.some.injEq] at h64
      apply h1
      rw [show b = 46 from UInt8.toNat_inj.1 h64]
  · obtain ⟨k, hk⟩ := Int.eq_ofNat_of_zero_le (show 0 ≤ Lib.indexByte s.data.toList 46 by omega)
    obtain ⟨h1, h2⟩ := Lib.indexByte_some hk
    rw [hk]
    have a1 : ¬ k < 64 := fun hlt => hlow k hlt (data_bs s k 46 h1)
    have a2 : ¬ 64 < k := by
      intro hlt
      have h3 := h2 64 hlt
      unfold bs at h64
      rw [List.getElem?_map] at h64
      cases q : s.data.toList[64]? with
      | none => rw [q] at h64; simp at h64
      | some b =>
        rw [q] at h64 h3
        simp only [Option.map_some, Option.some.injEq] at h64
        apply h3
        rw [show b = 46 from UInt8.toNat_inj.1 h64]
    have : k = 64 := by omega
    rw [this]; rfl
theorem nm_head {s d : ByteArray} {i : Nat} (h : IsN s d i) : s.extract 0 64 = ofBs (Sha.hex (bs d)) ∧ s.extract 65 s.size = ofBs (dec (i : Int)) := by
  obtain ⟨hd, hi, rfl⟩ := h
  have hb := bs_ofBs _ (nm_lt d (i : Int))
  have hx : (Sha.hex (bs d)).length = 64 := by rw [hex_length, bs_length, hd]
  constructor
  · apply bs_inj
    rw [bs_extract, hb, bs_ofBs _ (hex_lt _ (bs_lt d)), List.drop_zero]
    unfold nm
    rw [List.append_assoc, List.take_append_of_le_length (by omega), List.take_of_length_le (by omega)]
  · apply bs_inj
    rw [bs_extract, hb, bs_ofBs _ (dec_lt _), List.take_of_length_le (by rw [← bs_length, hb]; exact Nat.le_refl _)]
    unfold nm
    rw [List.drop_append_of_le_length (by simp [hx]), List.drop_of_length_le (by simp [hx])]; rfl
theorem isN_one {s d d' : ByteArray} {i i' : Nat} (h : IsN s d i) (h' : IsN s d' i') : d = d' ∧ i = i' := by
  have a := nm_head h
  have a' := nm_head h'
  constructor
  · have e : ofBs (Sha.hex (bs d)) = ofBs (Sha.hex (bs d')) := by rw [← a.1, ← a'.1]
    have e2 := congrArg bs e
    rw [bs_ofBs _ (hex_lt _ (bs_lt d)), bs_ofBs _ (hex_lt _ (bs_lt d'))] at e2
    have e3 := congrArg Sha.unhex e2
    rw [Sha.unhex_hex _ (bs_lt d), Sha.unhex_hex _ (bs_lt d')] at e3
    exact bs_inj e3
  · have e : ofBs (dec (i : Int)) = ofBs (dec (i' : Int)) := by rw [← a.2, ← a'.2]
    rw [← dec_str, ← dec_str] at e
    have e2 : Lib.itoa (i : Int) = Lib.itoa (i' : Int) := by
      have := congrArg (fun x : ByteArray => x.data.toList) e
      simpa using this
    have h1 := atoi12 ⟨i, h.2.1⟩
    have h2 := atoi12 ⟨i', h'.2.1⟩
    simp only at h1 h2
    rw [e2, h2] at h1
    simp only [Option.some.injEq] at h1
    omega
/-- Atoi of a short text: its number, or an error -/
theorem atoi_any (s : ByteArray) (hs : s.size ≤ 18) (w : World) (hl : Lay w) :
    Calls Tryd.prog 24 #[.string s] w fun e w' => ((∃ n, Lib.atoi s.data.toList = some n ∧ e = .returned (.tuple #[.int .i64 n, .nilIface])) ∨ (Lib.atoi s.data.toList = none ∧ ∃ N, e = .returned (.tuple #[.int .i64 0, .iface 92 (.pointer (some ⟨N, 0, none⟩))]))) ∧ Below w.heap.size w w' := by
  cases h : Lib.atoi s.data.toList with
  | some n =>
    refine (Tryd.strconv_Atoi s n hs h w).mono ?_
    rintro e w' ⟨rfl, t, rfl⟩
    exact ⟨.inl ⟨n, rfl, rfl⟩, Lib.bytesWorld_below _ _ _⟩
  | none =>
    obtain ⟨tp, p, q⟩ := hl.er
    refine (Tryd.strconv_Atoi_err_var s hs h tp p w (var_of_hasC gSyn q)).mono ?_
    rintro e w' ⟨N, rfl, _, _, hb⟩
    exact ⟨.inr ⟨rfl, N, rfl⟩, hb⟩
set_option maxRecDepth 20000 in
theorem parse_yes (s d : ByteArray) (i : Nat) (h : IsN s d i) (w : World) (hl : Lay w) :
    Calls Tryd.prog 11 #[.string s] w fun e w' => e = .returned (.tuple #[.string d, .int .i64 (i : Int), .bool true]) ∧ Below w.heap.size w w' := by
  have hdot := nm_dot h
  obtain ⟨e1, e2⟩ := nm_head h
  have hsz : s.size = (nm (bs d) (i : Int)).length := by rw [h.2.2, ofBs_size]
  have hlen := nm_length h.1 h.2.1
  have hat : Lib.atoi (ofBs (dec (i : Int))).data.toList = some (i : Int) := by
    rw [← dec_str]; exact atoi12 ⟨i, h.2.1⟩
  have hds : (ofBs (dec (i : Int))).size ≤ 2 := by rw [ofBs_size]; exact dec12 ⟨i, h.2.1⟩
  have hN : Hid (ofBs (nm (bs d) (i : Int)) = s) := h.2.2.symm
  have hU : ofBs (Sha.unhex (bs (ofBs (Sha.hex (bs d))))) = d := by
    rw [bs_ofBs _ (hex_lt _ (bs_lt d)), Sha.unhex_hex _ (bs_lt d), ofBs_bs]
  have hH : Sha.isHex (bs (ofBs (Sha.hex (bs d)))) := by
    rw [bs_ofBs _ (hex_lt _ (bs_lt d))]; exact Sha.isHex_hex _ (bs_lt d)
  have hxs : (ofBs (Sha.hex (bs d))).size = 64 := by rw [ofBs_size, hex_length, bs_length, h.1]
  have hd := h.1
  have hi := h.2.1
  clear h
  have q0 : ¬ (80 : Int) < (s.size : Int) := by omega
  have q1 : ((d.size : Int) != 32) = false := by rw [hd]; rfl
  have q2 : (i : Int) < 12 := by omega
  go_enter Tryd.func11, Tryd.ntmps11
  go_wp2_with fail
  refine (cut_at s (by omega) 64 (by omega) hdot w).mono ?_
  rintro e w1 ⟨rfl, b1⟩
  rw [e1, e2]
  have h1 := hl.below b1
  clear hdot e1 e2 hlen hsz
  go_wp2_with fail
  refine (unhex_any (ofBs (Sha.hex (bs d))) (by omega) w1).mono ?_
  rintro e w2 ⟨hr, b2⟩
  obtain ⟨_, rfl⟩ : Sha.isHex (bs (ofBs (Sha.hex (bs d)))) ∧ e = _ := by
    rcases hr with hr | hr
    · exact hr
    · exact absurd hH hr.1
  rw [hU]
  have h2 := h1.below b2
  have B2 := belowCall b1 b2
  clear hr b2 b1 h1 hl hH hU hxs
  go_wp2_with fail
  refine (atoi_any (ofBs (dec (i : Int))) (by omega) w2 h2).mono ?_
  rintro e w3 ⟨hr, b3⟩
  obtain rfl : e = .returned (.tuple #[.int .i64 (i : Int), .nilIface]) := by
    rcases hr with ⟨n, hn, rfl⟩ | ⟨hn, _⟩
    · rw [hat] at hn; simp only [Option.some.injEq] at hn; rw [hn]
    · rw [hat] at hn; cases hn
  have h3 := h2.below b3
  have B3 := belowCall B2 b3
  clear hr b3 B2 h2 hat hds
  go_wp2_with fail
  refine (may_any (i : Int) 12 w3).mono ?_
  rintro e w4 ⟨rfl, rfl⟩
  go_wp2_with fail
  refine (name_any d (i : Int) (by omega) (by omega) (by omega) w4 h3).mono ?_
  rintro e w5 ⟨rfl, b5⟩
  rw [hN.out]
  have B5 := belowCall B3 b5
  clear b5 B3 h3
  go_wp2_with fail
  go_ret3
  exact ⟨rfl, B5⟩
theorem unhex_size (s : ByteArray) (h : Sha.isHex (bs s)) : s.size = 2 * (ofBs (Sha.unhex (bs s))).size := by
  rw [ofBs_size]
  unfold Sha.unhex
  rw [Sha.unhexTo_length, bs_length]
  have := h.1
  rw [bs_length] at this
  omega
set_option maxRecDepth 20000 in
theorem parse_no (s : ByteArray) (h : ¬ ∃ d i, IsN s d i) (w : World) (hl : Lay w) :
    Calls Tryd.prog 11 #[.string s] w fun e w' => e = .returned (.tuple #[.string ⟨#[]⟩, .int .i64 0, .bool false]) ∧ Below w.heap.size w w' := by
  have hN : Hid (¬ ∃ d i, IsN s d i) := h
  clear h
  by_cases hbig : 80 < s.size
  · have q0 : (80 : Int) < (s.size : Int) := by omega
    go_enter Tryd.func11, Tryd.ntmps11
    go_wp2_with fail
    go_ret3
    exact ⟨rfl, Below.refl _ _⟩
  have q0 : ¬ (80 : Int) < (s.size : Int) := by omega
  go_enter Tryd.func11, Tryd.ntmps11
  go_wp2_with fail
  refine (cut_any s (by omega) w).mono ?_
  rintro e w1 ⟨hr, b1⟩
  obtain ⟨a, b, t, rfl, ha, hab⟩ : ∃ (a b : ByteArray) (t : Bool), e = .returned (.tuple #[.string a, .string b, .bool t]) ∧ a.size ≤ 80 ∧ (a.size = 64 → b.size ≤ 18) := by
    rcases hr with ⟨k, hk, _, rfl⟩ | ⟨_, rfl⟩
    · exact ⟨_, _, _, rfl, by rw [ByteArray.size_extract]; omega, by rw [ByteArray.size_extract, ByteArray.size_extract]; omega⟩
    · exact ⟨_, _, _, rfl, by omega, fun _ => by show 0 ≤ 18; omega⟩
  have h1 := hl.below b1
  clear hr
  go_wp2_with fail
  refine (unhex_any a (by omega) w1).mono ?_
  rintro e w2 ⟨hr, b2⟩
  have h2 := h1.below b2
  have B2 := belowCall b1 b2
  clear b2 b1 h1 hl
  rcases hr with ⟨hH, rfl⟩ | ⟨hH, rfl⟩
  · have hu := unhex_size a hH
    clear hH
    generalize ofBs (Sha.unhex (bs a)) = d at *
    by_cases hd : d.size = 32
    · have q1 : ((d.size : Int) != 32) = false := by rw [hd]; rfl
      have hb18 := hab (by omega)
      clear hab hu
      go_wp2_with fail
      refine (atoi_any b hb18 w2 h2).mono ?_
      rintro e w3 ⟨hr, b3⟩
      have h3 := h2.below b3
      have B3 := belowCall B2 b3
      clear b3 B2 h2
      rcases hr with ⟨n, hn, rfl⟩ | ⟨hn, M, rfl⟩
      · have hbd := Lib.atoi_bound hn (by simpa using hb18)
        clear hn
        go_wp2_with fail
        refine (may_any n 12 w3).mono ?_
        rintro e w4 ⟨rfl, rfl⟩
        by_cases hm : 0 ≤ n ∧ n < 12
        · have q2 : (decide (0 ≤ n) && decide (n < 12)) = true := by simp [hm.1, hm.2]
          rw [q2]
          clear q2
          go_wp2_with fail
          refine (name_any d n (by omega) (by omega) (by omega) w4 h3).mono ?_
          rintro e w5 ⟨rfl, b5⟩
          have B5 := belowCall B3 b5
          have hne : ((ofBs (nm (bs d) n)).toList == s.toList) = false := by
            apply str_ne
            intro e
            apply hN.out
            refine ⟨d, n.toNat, hd, by omega, ?_⟩
            rw [Int.toNat_of_nonneg hm.1]
            exact (bs_inj e).symm
          generalize ofBs (nm (bs d) n) = A at *
          clear b5 B3 h3
          go_wp2_with fail
          go_ret3
          exact ⟨rfl, B5⟩
        · have q2 : (decide (0 ≤ n) && decide (n < 12)) = false := by
            rw [← Bool.not_eq_true]; simpa using hm
          rw [q2]
          go_wp2_with fail
          go_ret3
          exact ⟨rfl, B3⟩
      · go_wp2_with fail
        go_ret3
        exact ⟨rfl, B3⟩
    · have q1 : ((d.size : Int) != 32) = true := by rw [bne_iff_ne]; omega
      go_wp2_with fail
      go_ret3
      exact ⟨rfl, B2⟩
  · go_wp2_with fail
    go_ret3
    exact ⟨rfl, B2⟩
/-- what Parse answers -/
def PAns (s : ByteArray) (e : Ending) : Prop := (∃ d i, IsN s d i ∧ e = .returned (.tuple #[.string d, .int .i64 (i : Int), .bool true])) ∨ ((¬ ∃ d i, IsN s d i) ∧ e = .returned (.tuple #[.string ⟨#[]⟩, .int .i64 0, .bool false]))
theorem PAns.one {s : ByteArray} {e e' : Ending} (h : PAns s e) (h' : PAns s e') : e = e' := by
  rcases h with ⟨d, i, hN, rfl⟩ | ⟨hN, rfl⟩
  · rcases h' with ⟨d', i', hN', rfl⟩ | ⟨hN', rfl⟩
    · obtain ⟨rfl, rfl⟩ := isN_one hN hN'; rfl
    · exact absurd ⟨d, i, hN⟩ hN'
  · rcases h' with ⟨d', i', hN', rfl⟩ | ⟨hN', rfl⟩
    · exact absurd ⟨d', i', hN'⟩ hN
    · rfl
theorem parse_any (s : ByteArray) (w : World) (hl : Lay w) :
    Calls Tryd.prog 11 #[.string s] w fun e w' => PAns s e ∧ Below w.heap.size w w' := by
  by_cases h : ∃ d i, IsN s d i
  · obtain ⟨d, i, hN⟩ := h
    refine (parse_yes s d i hN w hl).mono ?_
    rintro e w' ⟨rfl, hb⟩
    exact ⟨.inl ⟨d, i, hN, rfl⟩, hb⟩
  · refine (parse_no s h w hl).mono ?_
    rintro e w' ⟨rfl, hb⟩
    exact ⟨.inr ⟨h, rfl⟩, hb⟩
end Go.Proofs.YtnhakbpalfcmfaaDoor
