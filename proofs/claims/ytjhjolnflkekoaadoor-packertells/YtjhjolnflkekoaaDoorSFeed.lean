/- The contract of feed: the numbers behind all whole blocks of what was left and a string, and the bytes that are left; of what was there nothing changes. -/
import Derived.Test.YtjhjolnflkekoaaDoorSMix
import Derived.Test.YtjhjolnflkekoaaDoorSEat
import Derived.Laws.CopyOwn
namespace Go.Proofs.YtjhjolnflkekoaaDoor.S
open Go.RowKit
theorem S8v_size (s : Sha.S8) : (S8v s).size = 8 := rfl
/-- a list of bytes, read from its head, with no room behind -/
def IsBytes (w : World) (v : Value) (l : List Nat) : Prop :=
  ∃ sp, v = .slice sp l.length l.length ∧ (0 < l.length → ∃ rb cs t, sp = some ⟨rb, 0, none⟩ ∧ Has w rb (U8s cs) t ∧ l.length ≤ cs.length ∧ cs.take l.length = l ∧ t ≠ 67)
/-- what feed's memory holds while it goes -/
structure FeedW (s : Sha.S8) (cs : List Nat) (N : Nat) (w W : World) : Prop where
  h0 : Has W N (S8v s) 65
  h1 : Has W (N + 1) (S8v ⟨0, 0, 0, 0, 0, 0, 0, 0⟩) 65
  h2 : Has W (N + 1 + 1) (U8s cs) 76
  hl : cs.length = 64
  hc : ∀ x ∈ cs, x < 256
  ht : Tabs W
  bl : Below N w W
structure FeedEnd (t : Sha.S8) (cs : List Nat) (N : Nat) (w W : World) : Prop where
  g1 : Has W (N + 1) (S8v t) 65
  g2 : Has W (N + 1 + 1) (U8s cs) 76
  g3 : Below N w W
theorem Tabs.below {w w' : World} {B : Nat} (h : Tabs w) (hb : Below B w w') (hB : 1 < B) : Tabs w' := ⟨h.sq.below hb (by omega), h.cu.below hb hB⟩
/-- 64 bytes that are 0 -/
def zeros64 : Array Value := #[Value.int .u8 0, Value.int .u8 0, Value.int .u8 0, Value.int .u8 0, Value.int .u8 0, Value.int .u8 0, Value.int .u8 0, Value.int .u8 0, Value.int .u8 0, Value.int .u8 0, Value.int .u8 0, Value.int .u8 0, Value.int .u8 0, Value.int .u8 0, Value.int .u8 0, Value.int .u8 0, Value.int .u8 0, Value.int .u8 0, Value.int .u8 0, Value.int .u8 0, Value.int .u8 0, Value.int .u8 0, Value.int .u8 0, Value.int .u8 0, Value.int .u8 0, Value.int .u8 0, Value.int .u8 0, Value.int .u8 0, Value.int .u8 0, Value.int .u8 0, Value.int .u8 0, Value.int .u8 0, Value.int .u8 0, Value.int .u8 0, Value.int .u8 0, Value.int .u8 0, Value.int .u8 0, Value.int .u8 0, Value.int .u8 0, Value.int .u8 0, Value.int .u8 0, Value.int .u8 0, Value.int .u8 0, Value.int .u8 0, Value.int .u8 0, Value.int .u8 0, Value.int .u8 0, Value.int .u8 0, Value.int .u8 0, Value.int .u8 0, Value.int .u8 0, Value.int .u8 0, Value.int .u8 0, Value.int .u8 0, Value.int .u8 0, Value.int .u8 0, Value.int .u8 0, Value.int .u8 0, Value.int .u8 0, Value.int .u8 0, Value.int .u8 0, Value.int .u8 0, Value.int .u8 0, Value.int .u8 0]
theorem splice_zero (l : List Nat) (n : Nat) : (splice (U8s (List.replicate n 0)).toList 0 (U8s l).toList).toArray = U8s (l ++ List.replicate (n - l.length) 0) := by
  simp [splice, U8s]
theorem slice_block (g held : Nat) (hh : held < 64) (W : World) : (Instr.sliceAt 76 (.pointer (some ⟨g, 0, none⟩)) (some (.int .i64 (held : Int))) none none).run Tryd.prog W = .ok (.slice (some ⟨g, held, none⟩) (64 - held) (64 - held)) W := by
  have hA : Tryd.prog.arrayLen 76 = 64 := by kernel_rfl
  have hS : (sizeOf (Tryd.prog.elem 76)).run Tryd.prog W = .ok 1 W := by kernel_rfl
  rw [run_sliceAt_array_l (ht := by kernel_rfl) (h0 := by omega) (h1 := by rw [hA]; omega), hS, hA]
  simp only [Result.andThen_ok, slicedAt, Int.toNat_natCast, Nat.mul_one]
  rw [if_neg (by omega), Addr.add_mid, Nat.zero_add]
theorem slice_held (g held : Nat) (hh : held ≤ 64) (W : World) : (Instr.sliceAt 76 (.pointer (some ⟨g, 0, none⟩)) none (some (.int .i64 (held : Int))) (some (.int .i64 (held : Int)))).run Tryd.prog W = .ok (.slice (some ⟨g, 0, none⟩) held held) W := by
  have hA : Tryd.prog.arrayLen 76 = 64 := by kernel_rfl
  have hS : (sizeOf (Tryd.prog.elem 76)).run Tryd.prog W = .ok 1 W := by kernel_rfl
  rw [run_sliceAt_array_hm (ht := by kernel_rfl) (h0 := by omega) (h2 := by omega) (h3 := by rw [hA]; omega), hS]
  simp only [Result.andThen_ok, slicedAt, Int.toNat_natCast, Nat.zero_mul, Nat.sub_zero, Addr.add_mid, Nat.zero_add, ite_self]
def strLen : Value → Nat | .string s => s.size | _ => 0
set_option maxRecDepth 20000 in
set_option maxHeartbeats 1000000 in
theorem feed_any (s : Sha.S8) (hs : s.ok) (rv : Value) (l : List Nat) (hl : l.length < 64) (hlb : ∀ x ∈ l, x < 256) (str : ByteArray) (hstr : str.size ≤ 1000000000000) (w : World) (ht : Tabs w) (hv : IsBytes w rv l) :
    Calls Tryd.prog 33 #[.agg (S8v s), rv, .string str] w fun e w' => ∃ (nb : Nat) (cs : List Nat),
      e = .returned (.tuple #[.agg (S8v (Sha.eat s (l ++ bs str))), .slice (some ⟨nb, 0, none⟩) (Sha.left (l ++ bs str)).length (Sha.left (l ++ bs str)).length])
      ∧ w.heap.size ≤ nb ∧ Has w' nb (U8s cs) 76 ∧ (Sha.left (l ++ bs str)).length ≤ cs.length ∧ cs.take (Sha.left (l ++ bs str)).length = Sha.left (l ++ bs str) ∧ Below w.heap.size w w' := by
  obtain ⟨sp, rfl, hsp⟩ := hv
  have hsz := ht.cu.lt
  have Hsp : Hid _ := hsp
  clear hsp
  go_enter Tryd.func33, Tryd.ntmps33
  have hsz1 : Hid ((Tryd.prog.info? 5).map (·.size) = some 1) := by unfold Hid; kernel_rfl
  have HG : Hid (∀ o1 o2, (((w.alloc o1).alloc o2).alloc (.cells #[Value.int .u8 0, Value.int .u8 0, Value.int .u8 0, Value.int .u8 0, Value.int .u8 0, Value.int .u8 0, Value.int .u8 0, Value.int .u8 0, Value.int .u8 0, Value.int .u8 0, Value.int .u8 0, Value.int .u8 0, Value.int .u8 0, Value.int .u8 0, Value.int .u8 0, Value.int .u8 0, Value.int .u8 0, Value.int .u8 0, Value.int .u8 0, Value.int .u8 0, Value.int .u8 0, Value.int .u8 0, Value.int .u8 0, Value.int .u8 0, Value.int .u8 0, Value.int .u8 0, Value.int .u8 0, Value.int .u8 0, Value.int .u8 0, Value.int .u8 0, Value.int .u8 0, Value.int .u8 0, Value.int .u8 0, Value.int .u8 0, Value.int .u8 0, Value.int .u8 0, Value.int .u8 0, Value.int .u8 0, Value.int .u8 0, Value.int .u8 0, Value.int .u8 0, Value.int .u8 0, Value.int .u8 0, Value.int .u8 0, Value.int .u8 0, Value.int .u8 0, Value.int .u8 0, Value.int .u8 0, Value.int .u8 0, Value.int .u8 0, Value.int .u8 0, Value.int .u8 0, Value.int .u8 0, Value.int .u8 0, Value.int .u8 0, Value.int .u8 0, Value.int .u8 0, Value.int .u8 0, Value.int .u8 0, Value.int .u8 0, Value.int .u8 0, Value.int .u8 0, Value.int .u8 0, Value.int .u8 0] 76)).heap[w.heap.size + 1 + 1]? = some (.cells (U8s (List.replicate 64 0)).toList.toArray 76 (0, 0))) := by
    intro o1 o2
    exact Has.new ((w.alloc o1).alloc o2) (w.heap.size + 1 + 1) zeros64 76 (by simp)
  have Hpos : Hid (∀ o1 o2 o3, 0 < (U8s l).toList.length → some (⟨w.heap.size + 1 + 1, 0, none⟩ : Addr) = some ⟨w.heap.size + 1 + 1, 0, none⟩ ∧ ∃ ad, sp = some ad ∧ ∀ j v, (U8s l).toList[j]? = some v → (((w.alloc o1).alloc o2).alloc o3).cell? (ad.add j) = some v) := by
    intro o1 o2 o3 hp
    obtain ⟨rb, cs, t, h1, h2, h3, h4, _⟩ := Hsp.out (by simpa [U8s] using hp)
    refine ⟨rfl, ⟨rb, 0, none⟩, h1, fun j v hj => ?_⟩
    rw [Addr.add_mid, Nat.zero_add, (((h2.alloc o1).alloc o2).alloc o3).cell]
    rw [← h4] at hj
    simp only [U8s, List.map_take, List.getElem?_toArray] at hj ⊢
    rw [List.getElem?_take] at hj
    split at hj
    · exact hj
    · simp at hj
  have Hn : Hid ((U8s l).toList.length = Nat.min l.length 64) := by
    unfold Hid; rw [Array.length_toList, U8s_size]; exact (Nat.min_eq_left (by omega)).symm
  have Hfit : Hid (0 + (U8s l).toList.length ≤ (U8s (List.replicate 64 0)).toList.length) := by
    unfold Hid; simp [U8s]; omega
  have Hone : Hid (∀ v ∈ (U8s l).toList, v.oneCell' = true) := U8s_one l
  go_wp2_with (refine wpList_copy_splice rfl (.tmp 10) (.tmp 11) 51 51 rfl 5 Tryd.underlying51 hsz1.out _ _ 64 64 l.length l.length rfl rfl (w.heap.size + 1 + 1) 0 _ 76 (HG.out _ _) (U8s l).toList Hn.out (Hpos.out _ _ _) Hfit.out Hone.out (w.heap.size + 1 + 1) _ (Below.refl _ _) (Nat.le_refl _) ?_; intro W hW hbW)
  have hWh : Has W (w.heap.size + 1 + 1) (U8s (l ++ List.replicate (64 - l.length) 0)) 76 := by
    have h := hW.out
    have e : (splice (U8s (List.replicate 64 0)).toList 0 (U8s l).toList).toArray = U8s (l ++ List.replicate (64 - l.length) 0) := by
      exact splice_zero l 64
    rw [e] at h; exact h
  have hF : FeedW s (l ++ List.replicate (64 - l.length) 0) w.heap.size w W := by
    refine ⟨?_, ?_, hWh, by simp; omega, ?_, ?_, ?_⟩
    · exact Has.below (((Has.new _ _ _ _ rfl).alloc _).alloc _) hbW (by omega)
    · exact Has.below ((Has.new _ _ _ _ (by simp)).alloc _) hbW (by omega)
    · intro x hx
      rcases List.mem_append.1 hx with hx | hx
      · exact hlb x hx
      · rw [List.eq_of_mem_replicate hx]; decide
    · exact Tabs.below (w := ((w.alloc _).alloc _).alloc _) ⟨((ht.sq.alloc _).alloc _).alloc _, ((ht.cu.alloc _).alloc _).alloc _⟩ hbW (by omega)
    · exact Below.trans ((((Below.refl _ _).alloc (Nat.le_refl _) _).alloc (by simp only [World.size_alloc]; omega) _).alloc (by simp only [World.size_alloc]; omega) _) (hbW.mono (by omega))
  simp only [U8s_size]
  clear hWh hW hbW HG Hpos Hn Hfit Hone Hsp
  go_loopw [2, 9] (fun vs vh wr => ∃ (s' : ByteArray) (held : Nat) (cs : List Nat) (t : Sha.S8), vs = .string s' ∧ vh = .int .i64 (held : Int) ∧ held < 64 ∧ s'.size ≤ 1000000000000 ∧ t.ok ∧ FeedW t cs w.heap.size w wr ∧ Sha.eat t (cs.take held ++ bs s') = Sha.eat s (l ++ bs str) ∧ Sha.left (cs.take held ++ bs s') = Sha.left (l ++ bs str)) (fun vs vh _ => strLen vs + (intOf vh).toNat)
  case atStart => exact ⟨str, l.length, _, s, rfl, rfl, hl, hstr, hs, hF, by rw [List.take_left], by rw [List.take_left]⟩
  case round =>
    clear hF
    obtain ⟨s', held, cs, t, rfl, rfl, hh, hs', htok, hM, heat, hleft⟩ := hrel
    have Heat : Hid _ := heat
    have Hleft : Hid _ := hleft
    clear heat hleft
    obtain ⟨h0, h1, h2, hcl, hcb, hT, hbl⟩ := hM
    by_cases hge : 64 ≤ held + s'.size
    · have d0 : decide ((64 : Int) ≤ (held : Int) + (s'.size : Int)) = true := by simp; omega
      have hsl := fun W => slice_block (w.heap.size + 1 + 1) held hh W
      have hn1 : Hid (64 - held = Nat.min s'.size (64 - held)) := by unfold Hid; exact (Nat.min_eq_right (by omega)).symm
      have hn2 : Hid (held + (64 - held) ≤ (U8s cs).size) := by unfold Hid; rw [U8s_size, hcl]; omega
      have hb64 : ((64 - held : Nat) : Int) = 64 - (held : Int) := by omega
      have i0 : (0 : Int) ≤ 64 - (held : Int) := by omega
      have i1 : 64 - (held : Int) ≤ (s'.size : Int) := by omega
      have hcs : Hid ((cs.take held ++ (bs s').take (64 - held)).length = 64) := by
        unfold Hid; rw [List.length_append, List.length_take, List.length_take, bs_length, hcl]; omega
      have h2' : Has (wr.setCells (w.heap.size + 1 + 1) held (U8s ((bs s').take (64 - held))).toList) (w.heap.size + 1 + 1) (U8s (cs.take held ++ (bs s').take (64 - held))) 76 := by
        have h := has_bytes_mid h2 held (vs := (bs s').take (64 - held)) (by rw [List.length_take, bs_length, hcl]; omega)
        rw [List.drop_eq_nil_of_le (by rw [List.length_take, bs_length, hcl]; omega), List.append_nil] at h
        exact h
      have hcb' : ∀ x ∈ cs.take held ++ (bs s').take (64 - held), x < 256 := by
        intro x hx
        rcases List.mem_append.1 hx with hx | hx
        · exact hcb x (List.mem_of_mem_take hx)
        · exact bs_lt s' x (List.mem_of_mem_take hx)
      have h0' : Has (wr.setCells (w.heap.size + 1 + 1) held (U8s ((bs s').take (64 - held))).toList) w.heap.size (S8v t) 65 := has_setCells_other (by omega) _ _ h0
      have h1' : Has (wr.setCells (w.heap.size + 1 + 1) held (U8s ((bs s').take (64 - held))).toList) (w.heap.size + 1) (S8v ⟨0, 0, 0, 0, 0, 0, 0, 0⟩) 65 := has_setCells_other (by omega) _ _ h1
      have hT' : Tabs (wr.setCells (w.heap.size + 1 + 1) held (U8s ((bs s').take (64 - held))).toList) := ⟨hasC_setCells_other (by omega) _ _ hT.sq, hasC_setCells_other (by omega) _ _ hT.cu⟩
      have hbl' : Below w.heap.size w (wr.setCells (w.heap.size + 1 + 1) held (U8s ((bs s').take (64 - held))).toList) := below_setCells (by omega) _ _ hbl
      have Hr0 : Hid ((wr.setCells (w.heap.size + 1 + 1) held (U8s ((bs s').take (64 - held))).toList).rangeAt w.heap.size 0 (S8v t).toList) := h0'.range
      have Hr2 : Hid ((wr.setCells (w.heap.size + 1 + 1) held (U8s ((bs s').take (64 - held))).toList).rangeAt (w.heap.size + 1 + 1) 0 (U8s (cs.take held ++ (bs s').take (64 - held))).toList) := h2'.range
      have hi41 : Hid ((Tryd.prog.info? 65).map (·.size) = some (S8v t).toList.length) := by
        unfold Hid; rw [show (S8v t).toList.length = 8 from rfl]; kernel_rfl
      have hi59 : Hid ((Tryd.prog.info? 76).map (·.size) = some (U8s (cs.take held ++ (bs s').take (64 - held))).toList.length) := by
        unfold Hid; rw [show (U8s (cs.take held ++ (bs s').take (64 - held))).toList.length = 64 by rw [Array.length_toList, U8s_size, hcs.out]]; kernel_rfl
      go_wp2_with (first
        | (refine wpList_copy_str rfl (.tmp 20) (.tmp 21) 51 9 rfl 5 Tryd.underlying51 hsz1.out (w.heap.size + 1 + 1) held (64 - held) (64 - held) (64 - held) s' (U8s cs) 76 rfl rfl h2 hn1.out hn2.out ?_)
        | (refine wpList_load_mid rfl 65 _ rfl w.heap.size 0 rfl _ _ Hr0.out Tryd.underlying65 rfl hi41.out ?_)
        | (refine wpList_load_mid rfl 76 _ rfl (w.heap.size + 1 + 1) 0 rfl _ _ Hr2.out Tryd.underlying76 rfl hi59.out ?_))
      refine (mix_any t htok _ hcs.out hcb' _ hT').mono ?_
      rintro e w2 ⟨rfl, hb2⟩
      have hz2 := h2'.lt
      have h0'' := h0'.below hb2 h0'.lt
      have hE : Hid (Sha.eat (Sha.mix t (cs.take held ++ (bs s').take (64 - held))) ((cs.take held ++ (bs s').take (64 - held)).take 0 ++ bs (s'.extract (64 - held) s'.size)) = Sha.eat s (l ++ bs str) ∧ Sha.left ((cs.take held ++ (bs s').take (64 - held)).take 0 ++ bs (s'.extract (64 - held) s'.size)) = Sha.left (l ++ bs str)) := by
        have e1 : (cs.take held ++ bs s').take 64 = cs.take held ++ (bs s').take (64 - held) := by
          rw [List.take_append, List.length_take, hcl, Nat.min_eq_left (by omega), List.take_take, Nat.min_eq_right (by omega)]
        have e2 : (cs.take held ++ bs s').drop 64 = (bs s').drop (64 - held) := by
          rw [List.drop_append, List.length_take, hcl, Nat.min_eq_left (by omega), List.drop_eq_nil_of_le (by rw [List.length_take]; omega), List.nil_append]
        have hlen : 64 ≤ (cs.take held ++ bs s').length := by rw [List.length_append, List.length_take, bs_length, hcl]; omega
        unfold Hid
        rw [List.take_zero, List.nil_append, bs_drop, ← e1, ← e2, ← Sha.eat_step _ _ hlen, ← Sha.left_step _ hlen]
        exact ⟨Heat.out, Hleft.out⟩
      have hmok : Hid ((Sha.mix t (cs.take held ++ (bs s').take (64 - held))).ok) := Sha.mix_ok _ _
      have hx : (s'.extract (64 - held) s'.size).size = s'.size - (64 - held) := by simp
      generalize Sha.mix t (cs.take held ++ (bs s').take (64 - held)) = m at hE hmok ⊢
      have Ht : Hid (w2.there w.heap.size 0 (S8v m).size) := h0''.there 0 8 (by rw [S8v_size]; omega)
      have hi41' : Hid ((Tryd.prog.info? 65).map (·.size) = some (S8v m).size) := by
        unfold Hid; rw [S8v_size]; kernel_rfl
      have hone : Hid ((S8v m).all (·.oneCell') = true) := by unfold Hid S8v; simp [Value.oneCell']
      have hF2 : FeedW m (cs.take held ++ (bs s').take (64 - held)) w.heap.size w (w2.setCells w.heap.size 0 (S8v m).toList) := by
        refine ⟨has_setRow h0'' (by rw [S8v_size, S8v_size]), has_setCells_other (by omega) _ _ (h1'.below hb2 h1'.lt), has_setCells_other (by omega) _ _ (h2'.below hb2 h2'.lt), hcs.out, hcb', ?_, ?_⟩
        · exact ⟨hasC_setCells_other (by omega) _ _ (hT'.sq.below hb2 hT'.sq.lt), hasC_setCells_other (by omega) _ _ (hT'.cu.below hb2 hT'.cu.lt)⟩
        · exact below_setCells (Nat.le_refl _) _ _ (hbl'.trans (hb2.mono (by omega)))
      clear h0 h1 h2 h0' h1' h2' hcb hcb' hT hT' hbl hbl' Hr0 Hr2 hi41 hi59 hb2 h0'' Heat Hleft
      go_wp2_with (refine wpList_store_mid rfl 65 _ _ rfl w.heap.size 0 _ rfl rfl Ht.out hi41'.out hone.out ?_)
      go_light
      exact ⟨⟨_, 0, _, m, rfl, rfl, by omega, by rw [hx]; omega, hmok.out, hF2, hE.out.1, hE.out.2⟩, by simp [strLen, intOf]; omega⟩
    · have d0 : decide ((64 : Int) ≤ (held : Int) + (s'.size : Int)) = false := by simp; omega
      have hsl := fun W => slice_block (w.heap.size + 1 + 1) held hh W
      have hn1 : Hid (s'.size = Nat.min s'.size (64 - held)) := by unfold Hid; exact (Nat.min_eq_left (by omega)).symm
      have hn2 : Hid (held + s'.size ≤ (U8s cs).size) := by unfold Hid; rw [U8s_size, hcl]; omega
      have hlenl : (cs.take held ++ bs s').length = held + s'.size := by rw [List.length_append, List.length_take, bs_length, hcl]; omega
      have hE : Hid (Sha.eat s (l ++ bs str) = t) := by unfold Hid; rw [← Heat.out, Sha.eat_short _ _ (by rw [hlenl]; omega)]
      have hL : Hid (Sha.left (l ++ bs str) = cs.take held ++ bs s') := by unfold Hid; rw [← Hleft.out, Sha.left_short _ (by rw [hlenl]; omega)]
      have htk : (bs s').take s'.size = bs s' := List.take_of_length_le (by rw [bs_length]; exact Nat.le_refl _)
      have h2' : Has (wr.setCells (w.heap.size + 1 + 1) held (U8s (bs s')).toList) (w.heap.size + 1 + 1) (U8s (cs.take held ++ bs s' ++ cs.drop (held + (bs s').length))) 76 :=
        has_bytes_mid h2 held (by rw [bs_length, hcl]; omega)
      have hF2 : Has (wr.setCells (w.heap.size + 1 + 1) held (U8s (bs s')).toList) w.heap.size (S8v t) 65 ∧ Has (wr.setCells (w.heap.size + 1 + 1) held (U8s (bs s')).toList) (w.heap.size + 1) (S8v ⟨0, 0, 0, 0, 0, 0, 0, 0⟩) 65 ∧ Below w.heap.size w (wr.setCells (w.heap.size + 1 + 1) held (U8s (bs s')).toList) :=
        ⟨has_setCells_other (by omega) _ _ h0, has_setCells_other (by omega) _ _ h1, below_setCells (by omega) _ _ hbl⟩
      have Htk : Hid _ := htk
      have Hl : Hid _ := hlenl
      clear htk hlenl h0 h1 hbl hT Heat Hleft
      go_wp2_with (refine wpList_copy_str rfl (.tmp 29) (.tmp 30) 51 9 rfl 5 Tryd.underlying51 hsz1.out (w.heap.size + 1 + 1) held (64 - held) (64 - held) s'.size s' (U8s cs) 76 rfl rfl h2 hn1.out hn2.out ?_; rw [Htk.out])
      clear h2
      obtain ⟨h0, h1, hbl⟩ := hF2
      generalize wr.setCells (w.heap.size + 1 + 1) held (U8s (bs s')).toList = W at *
      have k0 : W.cell? ⟨w.heap.size, 0, none⟩ = some (.int .u32 (t.a : Int)) := h0.cell 0
      have m0 : W.cell? ⟨w.heap.size + 1, 0, none⟩ = some (.int .u32 0) := h1.cell 0
      have f0 : W.frozen? ⟨w.heap.size + 1, 0, none⟩ = false := h1.frozen 0
      have k1 : W.cell? ⟨w.heap.size, 1, none⟩ = some (.int .u32 (t.b : Int)) := h0.cell 1
      have m1 : W.cell? ⟨w.heap.size + 1, 1, none⟩ = some (.int .u32 0) := h1.cell 1
      have f1 : W.frozen? ⟨w.heap.size + 1, 1, none⟩ = false := h1.frozen 1
      have k2 : W.cell? ⟨w.heap.size, 2, none⟩ = some (.int .u32 (t.c : Int)) := h0.cell 2
      have m2 : W.cell? ⟨w.heap.size + 1, 2, none⟩ = some (.int .u32 0) := h1.cell 2
      have f2 : W.frozen? ⟨w.heap.size + 1, 2, none⟩ = false := h1.frozen 2
      have k3 : W.cell? ⟨w.heap.size, 3, none⟩ = some (.int .u32 (t.d : Int)) := h0.cell 3
      have m3 : W.cell? ⟨w.heap.size + 1, 3, none⟩ = some (.int .u32 0) := h1.cell 3
      have f3 : W.frozen? ⟨w.heap.size + 1, 3, none⟩ = false := h1.frozen 3
      have k4 : W.cell? ⟨w.heap.size, 4, none⟩ = some (.int .u32 (t.e : Int)) := h0.cell 4
      have m4 : W.cell? ⟨w.heap.size + 1, 4, none⟩ = some (.int .u32 0) := h1.cell 4
      have f4 : W.frozen? ⟨w.heap.size + 1, 4, none⟩ = false := h1.frozen 4
      have k5 : W.cell? ⟨w.heap.size, 5, none⟩ = some (.int .u32 (t.f : Int)) := h0.cell 5
      have m5 : W.cell? ⟨w.heap.size + 1, 5, none⟩ = some (.int .u32 0) := h1.cell 5
      have f5 : W.frozen? ⟨w.heap.size + 1, 5, none⟩ = false := h1.frozen 5
      have k6 : W.cell? ⟨w.heap.size, 6, none⟩ = some (.int .u32 (t.g : Int)) := h0.cell 6
      have m6 : W.cell? ⟨w.heap.size + 1, 6, none⟩ = some (.int .u32 0) := h1.cell 6
      have f6 : W.frozen? ⟨w.heap.size + 1, 6, none⟩ = false := h1.frozen 6
      have k7 : W.cell? ⟨w.heap.size, 7, none⟩ = some (.int .u32 (t.h : Int)) := h0.cell 7
      have m7 : W.cell? ⟨w.heap.size + 1, 7, none⟩ = some (.int .u32 0) := h1.cell 7
      have f7 : W.frozen? ⟨w.heap.size + 1, 7, none⟩ = false := h1.frozen 7
      have hsl2 := fun W => slice_held (w.heap.size + 1 + 1) (held + s'.size) (by omega) W
      simp only [Int.natCast_add] at hsl2
      go_region
      go_wp2
      go_light
      have hG : FeedEnd t (cs.take held ++ bs s' ++ cs.drop (held + (bs s').length)) w.heap.size w (W.setCells (w.heap.size + 1) 0 (S8v t).toList).drew :=
        ⟨(has_setRow h1 (by rw [S8v_size, S8v_size])).drew, (has_setCells_other (by omega) _ _ h2').drew, (below_setCells (by omega) _ _ hbl).drew⟩
      refine @gen_world (FeedEnd t (cs.take held ++ bs s' ++ cs.drop (held + (bs s').length)) w.heap.size w) (fun W => bodyPost _ _ _ _ _ W) _ hG ?_
      clear hG
      rintro W9 ⟨g1, g2, g3⟩
      refine bodyPost_ret (v := .tuple #[.agg (S8v t).toList.toArray, .slice (some ⟨w.heap.size + 1 + 1, 0, none⟩) (held + s'.size) (held + s'.size)]) ?_ rfl ⟨w.heap.size + 1 + 1, _, ?_, by omega, g2, ?_, ?_, g3⟩
      · rw [results_cell_tmp Tryd.results33]
        have hld := run_loadVar_mid (P := Tryd.prog) W9 (w.heap.size + 1) 0 65 (S8v t).toList _ g1.range Tryd.underlying65 rfl (by rw [show (S8v t).toList.length = 8 from rfl]; kernel_rfl)
        show ((Sem.run Tryd.prog (loadVar 65 ⟨w.heap.size + 1, 0, none⟩) W9).andThen _) = _
        rw [hld]
        rfl
      · rw [hE.out, hL.out, Hl.out, Array.toArray_toList]
      · rw [hL.out]; simp
      · rw [hL.out, List.take_append_of_le_length (Nat.le_refl _), List.take_of_length_le (Nat.le_refl _)]
end Go.Proofs.YtjhjolnflkekoaaDoor.S
