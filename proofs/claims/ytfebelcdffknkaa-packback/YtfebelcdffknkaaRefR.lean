/- The contract of the document's Read. -/
import Derived.Test.YtfebelcdffknkaaRefM
namespace Go.Proofs.Ytfebelcdffknkaa
open Go.RowKit Go.Maps
open Pk
set_option linter.unusedVariables false
theorem run_index (b : ByteArray) (j : Nat) (hj : j < b.size) (z : Int) (hz : z = (j : Int)) (hb : b.size ≤ 9223372036854775807) (w : World) : (Instr.index 9 (.string b) (.int .i64 z)).run Try.prog w = .ok (.int .u8 (((bs b).getD j 0 : Nat) : Int)) w := by
  subst hz
  have h1 : (j : Int) < (b.size : Int) := by omega
  have e := bs_get b j hj
  rw [e]
  simp [go_sem, h1]
theorem getD_lt (b : ByteArray) (j : Nat) : (bs b).getD j 0 < 256 := by
  rw [List.getD_eq_getElem?_getD]
  cases h : (bs b)[j]? with
  | none => simp
  | some x => exact bs_lt b x (List.mem_of_getElem? h)
theorem two_eq (l : List Nat) (k : Nat) : two l k = l.getD k 0 * 256 + l.getD (k + 1) 0 := rfl
/-- which chunks a blob's are, as far as they are read -/
structure Par (b : ByteArray) (n k : Nat) (l : List ByteArray) : Prop where
  len : l.length = k
  fits : k = 0 ∨ 6 + 2 * n + tot l ≤ b.size
  is : ∀ c, May c → bs b = blob c → c.length = n ∧ l.map bs = c.take k
theorem Par.tot' {b : ByteArray} {n k : Nat} {l : List ByteArray} (h : Par b n k l) : tot l ≤ b.size := by
  rcases h.fits with e | e
  · have : l = [] := List.eq_nil_of_length_eq_zero (by rw [h.len, e])
    subst this; simp [tot, total]
  · omega
theorem Par.start (b : ByteArray) (n : Nat) (hn : two (bs b) 4 = n) : Par b n 0 [] :=
  ⟨rfl, .inl rfl, fun c hc e => ⟨by rw [← hn, e, blob_num (by have := hc.most; omega)], by simp⟩⟩
theorem Par.size {b : ByteArray} {n k : Nat} {l : List ByteArray} (h : Par b n k l) {c : List (List Nat)} (hc : May c) (e : bs b = blob c) : b.size = 6 + 2 * n + total c := by
  rw [← bs_length, e, blob_len, (h.is c hc e).1]
theorem Par.head {b : ByteArray} {n k : Nat} {l : List ByteArray} (h : Par b n k l) (h2 : b.size < 6 + 2 * n) : ∀ c, May c → bs b ≠ blob c := fun c hc e => by
  have := h.size hc e; omega
theorem Par.tots {b : ByteArray} {n k : Nat} {l : List ByteArray} (h : Par b n k l) {c : List (List Nat)} (hc : May c) (e : bs b = blob c) : tot l = total (c.take k) := by
  unfold tot; rw [(h.is c hc e).2]
theorem Par.over {b : ByteArray} {n k q : Nat} {l : List ByteArray} (h : Par b n k l) (hk : k < n) (hq : two (bs b) (6 + 2 * k) = q) (h2 : b.size < 6 + 2 * n + tot l + q) : ∀ c, May c → bs b ≠ blob c := fun c hc e => by
  have h3 := h.size hc e
  have h4 := h.tots hc e
  have h5 := (h.is c hc e).1
  have h6 := blob_size hc.each k (by omega)
  rw [← e, hq] at h6
  have h7 := total_take c k (by omega)
  have h8 := total_take_le c (k + 1)
  omega
theorem Par.next {b : ByteArray} {n k q : Nat} {l : List ByteArray} (h : Par b n k l) (hk : k < n) (hq : two (bs b) (6 + 2 * k) = q) (h2 : 6 + 2 * n + tot l + q ≤ b.size) : Par b n (k + 1) (l ++ [b.extract (6 + 2 * n + tot l) (6 + 2 * n + tot l + q)]) := by
  refine ⟨by rw [List.length_append, h.len]; rfl, .inr ?_, fun c hc e => ⟨(h.is c hc e).1, ?_⟩⟩
  · rw [tot_snoc, ByteArray.size_extract]; omega
  · have h4 := h.tots hc e
    have h5 := (h.is c hc e).1
    subst h5
    have h6 := blob_size hc.each k hk
    rw [← e, hq] at h6
    have h7 := blob_chunk c k hk
    rw [← h6] at h7
    rw [List.map_append, (h.is c hc e).2, List.take_succ_eq_append_getElem hk, List.map_singleton, bs_extract, e, ← h7, h4, List.drop_take]
    congr 3
    omega
theorem Par.done {b : ByteArray} {n : Nat} {l : List ByteArray} (h : Par b n n l) {c : List (List Nat)} (hc : May c) (e : bs b = blob c) : l.map bs = c := by
  have h1 := h.is c hc e
  rw [h1.2, List.take_of_length_le (by omega)]
set_option maxRecDepth 20000 in
set_option maxHeartbeats 20000000 in
theorem refRead_all (b : ByteArray) (hb : b.size ≤ 60000) (hn6' : 6 ≤ b.size → two (bs b) 4 ≤ 600) (w : World) (Q : Ending → World → Prop)
    (hY : ∀ (l : List ByteArray) A cap B cb w', May (l.map bs) → bs b = blob (l.map bs) → Tx w' A l → Is w' B (at' (l.map bs)) → Below w.heap.size w w' → Q (.returned (.tuple #[.slice A l.length cap, .slice B l.length cb, .int .i64 0])) w')
    (hN : ∀ w', (∀ c, May c → bs b ≠ blob c) → Below w.heap.size w w' → Q (.returned (.tuple #[.slice none 0 0, .slice none 0 0, .int .i64 4])) w') : Calls Try.prog 17 #[.string b] w Q := by
  obtain ⟨i0, hi, hz0, hz1, hz2⟩ := info_parts (show (Try.prog.info? 9).map (fun i => (i.zero, i.size, i.bytes)) = some (some (.string ⟨#[]⟩), 1, 16) by kernel_rfl)
  have HY := hid hY
  have HN := hid hN
  clear hY hN
  by_cases h6 : b.size < 6
  · have d6 : decide ((b.size : Int) < 6) = true := by simp; omega
    have hno : Hid (∀ c, May c → bs b ≠ blob c) := hid (fun c hc e => by
      have := blob_len c; rw [← e, bs_length] at this; omega)
    go_enter Try.func17, Try.ntmps17
    go_wp2_with fail
    exact ret3 Try.results17 rfl rfl rfl rfl (HN.out _ hno.out (Below.refl _ _))
  · have d6 : decide ((b.size : Int) < 6) = false := by simp; omega
    have q4 : (4 : Int) ≤ (b.size : Int) := by omega
    have hn6 := hn6' (by omega)
    clear hn6'
    by_cases hpk : (bs b).take 4 = pak1
    · have e4 : b.extract 0 4 = ⟨#[112, 97, 107, 49]⟩ := bs_inj (by rw [bs_extract, List.drop_zero, hpk]; decide)
      have ix4 := run_index b 4 (by omega) 4 rfl (by omega)
      have ix5 := run_index b 5 (by omega) 5 rfl (by omega)
      have l4 := getD_lt b 4
      have l5 := getD_lt b 5
      have hP0 := Par.start b _ rfl
      have h2 := two_eq (bs b) 4
      obtain ⟨n, hn⟩ : ∃ n, n = two (bs b) 4 := ⟨_, rfl⟩
      rw [← hn] at h2 hn6 hP0
      have HP0 := hid hP0
      generalize (bs b).getD 4 0 = x4 at *
      generalize (bs b).getD (4 + 1) 0 = x5 at *
      clear hpk hP0 hn
      have hx : (x4 : Int) * 256 + (x5 : Int) = (n : Int) := by omega
      clear h2
      go_enter Try.func17, Try.ntmps17
      go_wp2_with fail
      go_region
      go_wp2_with fail
      clear hx ix4 ix5 l4 l5 e4 q4
      go_loopw [6, 7, 8, 9] (fun v6 v7 v8 _ wr => ∃ (k : Nat) (l : List ByteArray), k ≤ n ∧ v8 = .int .i64 (k : Int) ∧ v6 = .int .i64 ((6 + 2 * n + tot l : Nat) : Int) ∧ Hid (Par b n k l) ∧ wr.ownsRow w.heap.size 9 1 v7 k (l.map Value.string) ∧ Below w.heap.size w wr) (fun _ _ v8 _ _ => n - (intOf v8).toNat)
      case atStart => exact ⟨0, [], Nat.zero_le _, rfl, rfl, HP0.out, World.ownsRow_nil _ _ _ _, (Below.refl _ _).drew⟩
      case round =>
        clear HP0
        obtain ⟨k, l, hk, rfl, rfl, HP, hrow, hB⟩ := hrel
        have htl := HP.out.tot'
        by_cases hlt : k < n
        · have i1 : (k : Int) < (n : Int) := by omega
          by_cases hA : b.size < 6 + 2 * n
          · have dA : decide ((b.size : Int) < 6 + 2 * (n : Int)) = true := by simp; omega
            have hno := hid (HP.out.head hA)
            clear htl hrow
            go_wp2_with fail
            exact ret3 Try.results17 rfl rfl rfl rfl (HN.out _ hno.out hB)
          · have dA : decide ((b.size : Int) < 6 + 2 * (n : Int)) = false := by simp; omega
            have ixa := run_index b (6 + 2 * k) (by omega) (6 + 2 * (k : Int)) (by omega) (by omega)
            have ixb := run_index b (7 + 2 * k) (by omega) (7 + 2 * (k : Int)) (by omega) (by omega)
            have la := getD_lt b (6 + 2 * k)
            have lb := getD_lt b (7 + 2 * k)
            have h2 := two_eq (bs b) (6 + 2 * k)
            rw [show 6 + 2 * k + 1 = 7 + 2 * k by omega] at h2
            obtain ⟨q, hq⟩ : ∃ q, q = two (bs b) (6 + 2 * k) := ⟨_, rfl⟩
            have HQ := hid hq.symm
            rw [← hq] at h2
            generalize (bs b).getD (6 + 2 * k) 0 = xa at *
            generalize (bs b).getD (7 + 2 * k) 0 = xb at *
            have hx : (xa : Int) * 256 + (xb : Int) = (q : Int) := by omega
            have hql : q < 65536 := by omega
            obtain ⟨f, hf⟩ : ∃ f, f = 6 + 2 * n + tot l := ⟨_, rfl⟩
            have HF := hid hf
            rw [← hf]
            obtain ⟨e, he⟩ : ∃ e, e = f + q := ⟨_, rfl⟩
            have HE := hid he
            have hfe : (f : Int) + (q : Int) = (e : Int) := by omega
            have hfl : f ≤ 200000 := by omega
            have wk : IntKind.i64.wrap ((k : Int) + 1) = ((k + 1 : Nat) : Int) := by rw [IntKind.wrap_i64]; omega
            by_cases hO : b.size < e
            · have dB : decide ((b.size : Int) < (e : Int)) = true := by simp; omega
              have hno := hid (HP.out.over hlt HQ.out (by omega))
              clear h2 hq hf he htl hrow
              go_wp2_with fail
              go_region
              go_wp2_with fail
              exact ret3 Try.results17 rfl rfl rfl rfl (HN.out _ hno.out hB.drew)
            · have dB : decide ((b.size : Int) < (e : Int)) = false := by simp; omega
              have HP2 := hid (HP.out.next hlt HQ.out (by omega))
              rw [← hf, ← he] at HP2
              have HT2 : Hid (6 + 2 * n + tot (l ++ [b.extract f e]) = e) := hid (by rw [tot_snoc, ByteArray.size_extract]; omega)
              have j1 : (f : Int) ≤ (e : Int) := by omega
              have j2 : (e : Int) ≤ (b.size : Int) := by omega
              have hml : k + 1 ≤ maxLen := by unfold maxLen; omega
              clear h2 hq hf he htl HP
              generalize u7 = v7 at *
              go_wp2_with fail
              go_region
              go_wp2_with (at_builtin; refine wpList_append_own _ rfl _ _ 24 rfl w.heap.size 9 i0 (.string ⟨#[]⟩) 1 16 Try.underlying24 hi hz0 hz1 hz2 rfl (by decide) v7 k _ rfl (hrow.drew.alloc _) ⟨wr.drew.heap.size, 0, none⟩ 1 1 [.string (b.extract f e)] rfl rfl (cell_one_new _ _ _) (by simp [Value.oneCell']) (by omega) (by omega) (by have := hB.size; simp; omega) ?_; intro v' w2 hown' hgrow _)
              have hB2 : Below w.heap.size w w2 := (hB.drew.alloc (by have := hB.size; simp; omega) _).grown hgrow (by have := hB.size; simp; omega) (fun j hj => (hrow.lt j hj).1)
              go_roundw
              case rel => exact ⟨k + 1, l ++ [b.extract f e], by omega, by rfl, by rw [HT2.out], HP2.out, by rw [List.map_append]; exact hown', hB2⟩
              case measure => first | (simp [intOf]; done) | (simp [intOf]; omega)
        · obtain rfl : k = n := by omega
          have q1 : ¬ ((k : Int) < (k : Int)) := by omega
          have hlen := HP.out.len
          obtain ⟨A, cap, hv, hcp, hkl, htx⟩ := row_tx hrow
          clear hkl
          have HTX := hid htx
          rw [hlen] at hv
          rw [hv]
          have hl6 : l.length ≤ 1000000 := by omega
          have htl8 : tot l ≤ 100000000 := by omega
          by_cases hM : May (l.map bs)
          · have CM := refMake_yes l A cap wr htx hM
            have HM := hid hM
            by_cases he : bs b = blob (l.map bs)
            · have eb : ofBs (blob (l.map bs)) = b := by rw [← he, ofBs_bs]
              have HE := hid he
              rw [eb] at CM
              rw [hlen] at CM
              have HLEN := hid hlen
              clear hrow htx hl6 htl8 he eb hM hlen HP htl hcp hv
              go_wp2_with fail
              refine CM.mono ?_
              rintro e w3 ⟨B, cb, rfl, h3, b3⟩
              have H3 := hid h3
              have B3 := hid (hB.trans (b3.mono hB.size))
              have HT3 := hid (HTX.out.below b3)
              clear h3 b3 CM
              go_wp2_with fail
              exact ret3 Try.results17 rfl rfl rfl rfl (by
                have h9 := HY.out l A cap B cb w3 HM.out HE.out HT3.out H3.out B3.out
                rw [HLEN.out] at h9
                exact h9)
            · have hne := str_ne (a := ofBs (blob (l.map bs))) (b := b) (fun e => he (by rw [← e, bs_ofBs _ (blob_lt _)]))
              have hno := hid (fun c (hc : May c) (e : bs b = blob c) => he (by rw [HP.out.done hc e]; exact e))
              rw [hlen] at CM
              clear hrow htx hl6 htl8 he hM hlen HP htl hcp hv
              generalize ofBs (blob (l.map bs)) = b' at *
              go_wp2_with fail
              refine CM.mono ?_
              rintro e w3 ⟨B, cb, rfl, h3, b3⟩
              have B3 := hid (hB.trans (b3.mono hB.size))
              clear h3 b3 CM
              go_wp2_with fail
              exact ret3 Try.results17 rfl rfl rfl rfl (HN.out _ hno.out B3.out)
          · have CM := refMake_no l A cap wr htx hl6 htl8 hM
            have hno := hid (fun c (hc : May c) (e : bs b = blob c) => hM (by rw [HP.out.done hc e]; exact hc))
            rw [hlen] at CM
            clear hrow htx hl6 htl8 hM hlen HP htl hcp hv
            go_wp2_with fail
            refine CM.mono ?_
            rintro e w3 ⟨rfl, b3⟩
            have B3 := hid (hB.trans (b3.mono hB.size))
            clear b3 CM
            go_wp2_with fail
            exact ret3 Try.results17 rfl rfl rfl rfl (HN.out _ hno.out B3.out)
    · have e4 : ((b.extract 0 4).toList == (⟨#[112, 97, 107, 49]⟩ : ByteArray).toList) = false := str_ne (fun e => hpk (by
        have := congrArg bs e
        rw [bs_extract, List.drop_zero] at this
        rw [this]; decide))
      rw [show (⟨#[112, 97, 107, 49]⟩ : ByteArray).toList = [112, 97, 107, 49] by rw [ByteArray.toList_eq]] at e4
      have hno : Hid (∀ c, May c → bs b ≠ blob c) := hid (fun c hc e => hpk (by rw [e]; exact blob_pak c))
      clear hpk
      go_enter Try.func17, Try.ntmps17
      go_wp2_with fail
      exact ret3 Try.results17 rfl rfl rfl rfl (HN.out _ hno.out (Below.refl _ _))
end Go.Proofs.Ytfebelcdffknkaa
