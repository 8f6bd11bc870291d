/- The walk of ShaAdds: it answers yes for every list of texts. -/
import Derived.Test.YtpddjbiajagkaaaDoorSums
import Derived.Test.YtpddjbiajagkaaaDoorAdd
import Derived.Test.YtpddjbiajagkaaaDoorCopyH
import Derived.Deep.Light
namespace Go.Proofs.YtpddjbiajagkaaaDoor
open Go.RowKit
/-- what the first i texts count -/
def tot (ls : List ByteArray) : Nat → Nat
  | 0 => 0
  | i + 1 => tot ls i + (ls.getD i ByteArray.empty).size + 100
theorem bs_append (a b : ByteArray) : bs (a ++ b) = bs a ++ bs b := by
  simp [bs]
theorem size_append (a b : ByteArray) : (a ++ b).size = a.size + b.size := by simp
theorem tot_le (ls : List ByteArray) (i : Nat) : ∀ j, i ≤ j → tot ls i ≤ tot ls j
  | 0, h => by obtain rfl : i = 0 := by omega
               exact Nat.le_refl _
  | j + 1, h => by
    by_cases hi : i = j + 1
    · subst hi; exact Nat.le_refl _
    · have := tot_le ls i j (by omega)
      show _ ≤ tot ls j + (ls.getD j ByteArray.empty).size + 100
      omega
/-- a list of texts as it lies -/
def Texts (W : World) (sp : Option Addr) (ls : List ByteArray) : Prop := 0 < ls.length → ∃ b off, sp = some ⟨b, off, none⟩ ∧ b < W.heap.size ∧ ∀ i, i < ls.length → W.cell? ⟨b, off + i, none⟩ = some (.string (ls.getD i ByteArray.empty))
set_option maxRecDepth 20000 in
set_option maxHeartbeats 2000000 in
theorem adds_walk (w : World) (ht : Tabs w) (ls : List ByteArray) (sp : Option Addr) (cap : Nat) (hl : ls.length ≤ 9223372036854775807) (hsz : ∀ s ∈ ls, s.size ≤ 9223372036850000000) (hc : Texts w sp ls) :
    Calls Tryd.prog 5 #[.slice sp ls.length cap] w fun e w' => e = .returned (.bool true) ∧ Below w.heap.size w w' := by
  have Hc : Hid _ := hc
  clear hc
  go_enter Tryd.func5, Tryd.ntmps5
  go_wp2_with fail
  go_loopw [3, 4] (fun vn vi wr => ∃ i : Nat, i ≤ ls.length ∧ vi = .int .i64 (i : Int) ∧ vn = .int .i64 (tot ls i : Int) ∧ w = wr) (fun _ vi _ => ls.length - (intOf vi).toNat)
  case atStart => exact ⟨0, by omega, rfl, rfl, rfl⟩
  case round =>
    obtain ⟨i, hi, rfl, rfl, rfl⟩ := hrel
    by_cases hlt : i < ls.length
    · have HT : Hid (tot ls (i + 1) = tot ls i + (ls.getD i ByteArray.empty).size + 100) := rfl
      obtain ⟨b, off, rfl, hb, hcell⟩ := Hc.out (by omega)
      have ck := hcell i hlt
      have hsi : (ls.getD i ByteArray.empty).size ≤ 9223372036850000000 := by
        rw [List.getD_eq_getElem?_getD, List.getElem?_eq_getElem hlt]; exact hsz _ (List.getElem_mem hlt)
      clear hcell
      generalize ls.getD i ByteArray.empty = s at *
      generalize tot ls i = n at *
      have d1 : (i : Int) < (ls.length : Int) := by omega
      have d0 : (0 : Int) ≤ (i : Int) := by omega
      by_cases hn : n < 4000
      · have d2 : (n : Int) < 4000 := by omega
        go_wp2_with fail
        exact ⟨⟨i + 1, by omega, by go_num, by rw [HT.out]; go_num, trivial⟩, by simp [intOf]; omega⟩
      · have d2 : ¬ (n : Int) < 4000 := by omega
        have d3 : (4000 : Int) ≤ (n : Int) := by omega
        go_wp2_with fail
        go_ret
        exact ⟨rfl, Below.refl _ _⟩
    · obtain rfl : i = ls.length := by omega
      by_cases hn : tot ls ls.length < 4000
      · have d3 : ¬ (4000 : Int) ≤ (tot ls ls.length : Int) := by omega
        go_wp2_with fail
        refine (new_any w ht).mono ?_
        rintro e w1 ⟨rfl, h1, b1⟩
        have ht1 := ht.below' b1
        have hN : 1 < w.heap.size := ht.cu.lt
        go_wp2_with fail
        go_loopw [6, 7] (fun va vi W => ∃ (a : ByteArray) (i : Nat), va = .string a ∧ vi = .int .i64 (i : Int) ∧ i ≤ ls.length ∧ a.size + 100 * i ≤ tot ls i ∧ IsHash W w.heap.size (bs a) ∧ Tabs W ∧ Below w.heap.size w W) (fun _ vi _ => ls.length - (intOf vi).toNat)
        case atStart => exact ⟨⟨#[]⟩, 0, rfl, rfl, by omega, Nat.le_refl _, h1, ht1, b1⟩
        case round =>
          clear h1 ht1 b1
          obtain ⟨a, i, rfl, rfl, hi, ha, h2, ht2, B2⟩ := hrel
          have hti := tot_le ls i ls.length hi
          have hsz2 := h2.lt
          by_cases hit : i < ls.length
          · have HT : tot ls (i + 1) = tot ls i + (ls.getD i ByteArray.empty).size + 100 := rfl
            have hti2 := tot_le ls (i + 1) ls.length (by omega)
            obtain ⟨b, off, rfl, hb, hcell⟩ := Hc.out (by omega)
            have HK : Hid (∀ W, Below w.heap.size w W → W.cell? ⟨b, off + i, none⟩ = some (.string (ls.getD i ByteArray.empty))) := fun W hW => cell_below hW hb (hcell i hit)
            clear hcell
            generalize ls.getD i ByteArray.empty = s at *
            have hA : a.size ≤ 4000 := by omega
            have hS : s.size ≤ 4000 := by omega
            have hla := bs_length a
            have hls := bs_length s
            have i1 : (i : Int) < (ls.length : Int) := by omega
            have i0 : (0 : Int) ≤ (i : Int) := by omega
            clear d3 hn
            go_wp2_with fail
            refine (copy_any _ _ _ h2).mono ?_
            rintro e w3 ⟨nb, rfl, hnb, h3, b3⟩
            have hne : nb ≠ w.heap.size := by omega
            have h2' := h2.below b3
            have ht3 := ht2.below' b3
            have B3 := belowCall B2 b3
            have c3 := HK.out _ B3
            clear b3
            go_wp2_with fail
            refine (add_any w3 ht3 _ _ (bs_lt a) h2' s (by omega)).mono ?_
            rintro e w4 ⟨rfl, h4, o4⟩
            have h3' := h3.only h2' o4 hne
            have ht4 := ht3.only o4 hN
            have B4 := B3.trans (o4.below (Nat.le_refl _) B3.size)
            clear c3 o4 h3 h2'
            go_wp2_with fail
            refine (hashSum_any w4 ht4 nb _ (bs_lt a) h3' (by omega)).mono ?_
            rintro e w5 ⟨rfl, b5⟩
            have h3 := h3'.below b5
            have h5 := h4.below b5
            have ht5 := ht4.below' b5
            have B5 := belowCall B4 b5
            clear b5 h3' h4
            go_wp2_with fail
            refine (refSum_any a (by omega) w5).mono ?_
            rintro e w6 ⟨rfl, b6⟩
            have h3' := h3.below b6
            have h6 := h5.below b6
            have ht6 := ht5.below' b6
            have B6 := belowCall B5 b6
            clear b6 h3 h5
            go_wp2_with fail
            refine (add_any w6 ht6 nb _ (bs_lt a) h3' ⟨#[63]⟩ (by rw [hla]; show _ + 1 ≤ _; omega)).mono ?_
            rintro e w7 ⟨rfl, h3, o7⟩
            have h7 := h6.only h3' o7 (by omega)
            have ht7 := ht6.only o7 (by omega)
            have B7 := B6.trans (o7.below (by omega) B6.size)
            clear o7 h3' h6
            go_wp2_with fail
            refine (len_any w7 nb _ h3).mono ?_
            rintro e w8 ⟨rfl, rfl⟩
            have hL : Hid ((((bs a ++ bs (⟨#[63]⟩ : ByteArray)).length : Nat) : Int) = (a.size : Int) + 1) := by
              unfold Hid; rw [List.length_append, hla]; rfl
            rw [hL.out]
            have c7 := HK.out _ B7
            clear h3
            go_wp2_with fail
            have hab : bs (a ++ s) = bs a ++ bs s := bs_append a s
            have hsab := size_append a s
            rw [← hab] at h7
            refine (hashSum_any w8 ht7 _ _ (bs_lt (a ++ s)) h7 (by rw [bs_length, hsab]; omega)).mono ?_
            rintro e w9 ⟨rfl, b9⟩
            have h9 := h7.below b9
            have ht9 := ht7.below' b9
            have B9 := belowCall B7 b9
            clear b9 h7 c7
            go_wp2_with fail
            refine (refSum_any (a ++ s) (by rw [hsab]; omega) w9).mono ?_
            rintro e w10 ⟨rfl, b10⟩
            have h10 := h9.below b10
            have ht10 := ht9.below' b10
            have B10 := belowCall B9 b10
            clear b10 h9
            go_wp2_with fail
            refine (len_any w10 _ _ h10).mono ?_
            rintro e w11 ⟨rfl, rfl⟩
            rw [bs_length]
            go_wp2_with fail
            exact ⟨⟨a ++ s, i + 1, rfl, by go_num, by omega, by rw [hsab, HT]; omega, h10, ht10, B10⟩, by simp [intOf]; omega⟩
          · obtain rfl : i = ls.length := by omega
            have hla := bs_length a
            clear d3
            go_wp2_with fail
            refine (hashSum_any _ ht2 _ _ (bs_lt a) h2 (by omega)).mono ?_
            rintro e w9 ⟨rfl, b9⟩
            have B9 := belowCall B2 b9
            clear b9
            go_wp2_with fail
            refine (refSum_any a (by omega) w9).mono ?_
            rintro e w10 ⟨rfl, b10⟩
            have B10 := belowCall B9 b10
            clear b10
            go_wp2_with fail
            go_ret
            exact ⟨rfl, B10⟩
      · have d3 : (4000 : Int) ≤ (tot ls ls.length : Int) := by omega
        go_wp2_with fail
        go_ret
        exact ⟨rfl, Below.refl _ _⟩
end Go.Proofs.YtpddjbiajagkaaaDoor
