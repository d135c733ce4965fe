/-
  Texts that belong together, joined: CdA CdB CdC CdD.
-/
import Derived.Test.YtcdhakfmljjaoaaGreatDoorJD
import Derived.Maps.AppendAt

/-
  The document's Room and Check; the law's refHigh.
-/

namespace Go.Proofs.YtcdhakfmljjaoaaGreatDoor.cd
set_option maxRecDepth 100000
open Go.RowKit Go.Maps Go.Proofs.YtcdhakfmljjaoaaGreatDoor.fl
set_option maxRecDepth 100000

theorem usedI_in (x : Int) : 0 ≤ usedI x ∧ usedI x ≤ 16384 := by
  unfold usedI
  by_cases h : 1 ≤ x ∧ x ≤ 15
  · rw [if_pos h]
    have h1 : (2 : Nat) ^ (15 - x.toNat) ≤ 2 ^ 14 := Nat.pow_le_pow_right (by omega) (by omega)
    have h2 : ((2 ^ (15 - x.toNat) : Nat) : Int) = 2 ^ (15 - x.toNat) := Int.natCast_pow 2 _
    have h3 : (0 : Int) ≤ 2 ^ (15 - x.toNat) := Int.pow_nonneg (by omega)
    omega
  · rw [if_neg h]
    omega
theorem usedS_take {l : List Int} {k : Nat} {x : Int} (h : l[k]? = some x) : usedS (l.take (k + 1)) = usedS (l.take k) + usedI x := by
  rw [List.take_add_one, h, usedS_append]
  simp [usedS]

theorem inB_take {l : List Int} {k : Nat} {x : Int} (h : l[k]? = some x) : inB (l.take (k + 1)) = (inB (l.take k) && (decide (0 ≤ x) && decide (x ≤ 15))) := by
  rw [List.take_add_one, h, inB_append]
  simp [inB]
theorem codes_take {l : List Int} {k : Nat} {x : Int} (h : l[k]? = some x) : codesN (l.take (k + 1)) = codesN (l.take k) + if 0 < x then 1 else 0 := by
  unfold codesN
  rw [List.take_add_one, h, List.countP_append]
  congr 1
  simp [List.countP_cons]
theorem codesN_le (l : List Int) : codesN l ≤ l.length := List.countP_le_length
theorem cnt_le (l : List Int) (n : Nat) : cnt l n ≤ l.length := List.count_le_length
theorem okB_no {l : List Int} (h : inB l = false) : okB l = false := by
  unfold okB
  rw [h]
  simp
theorem in_false {l : List Int} {k : Nat} {x : Int} (h : l[k]? = some x) (hx : x < 0 ∨ 15 < x) : inB l = false := by
  cases hb : inB l with
  | false => rfl
  | true =>
    have := (inB_iff l).1 hb x (List.mem_of_getElem? h)
    omega
theorem chk_long {l : List Int} (h : 288 < l.length) : chkI l = 100 := by
  unfold chkI okB
  rw [if_neg]
  simp
  intro h2
  omega
theorem chk_no {l : List Int} (h : okB l = false) : chkI l = 100 := by
  unfold chkI
  rw [h]
  rfl
theorem chk_yes {l : List Int} (h : okB l = true) : chkI l = 0 := if_pos h

/-- A number's highest bits so far. -/
theorem valH_take {l : List Int} {k : Nat} {x : Int} (h : l[k]? = some x) : valH (l.take (k + 1)) = 2 * valH (l.take k) + x := by
  rw [List.take_add_one, h]
  exact valH_snoc _ _
end Go.Proofs.YtcdhakfmljjaoaaGreatDoor.cd

/-
  The document's Fixed, same and longest.
-/
namespace Go.Proofs.YtcdhakfmljjaoaaGreatDoor.cd
set_option maxRecDepth 100000
open Go.RowKit Go.Maps Go.Proofs.YtcdhakfmljjaoaaGreatDoor.fl
set_option maxRecDepth 100000

/-- A slice of slices of bits whose rows lie in blocks from lo on, below hi. -/
def RdW (w : World) (lo hi : Nat) (A : Option Addr) (W : List (List Int)) : Prop :=
  W ≠ [] → ∃ g, A = some ⟨g, 0, none⟩ ∧ lo ≤ g ∧ g < hi ∧ ∀ j r, W[j]? = some r → ∃ A' c, w.cell? ⟨g, j, none⟩ = some (.slice A' r.length c) ∧ RdT w lo hi A' r
theorem RdW.kept {w w' : World} {lo hi : Nat} {A : Option Addr} {W : List (List Int)} (h : RdW w lo hi A W) {S : Nat → Prop} (hF : Fr S w w') (hB : hi ≤ w.heap.size) (hS : ∀ i, lo ≤ i → i < hi → ¬ S i) : RdW w' lo hi A W := fun hne => by
  obtain ⟨g, e, h1, h2, hc⟩ := h hne
  refine ⟨g, e, h1, h2, fun j r hj => ?_⟩
  obtain ⟨A', c, k1, k2⟩ := hc j r hj
  exact ⟨A', c, (World.cell?_of_block (w := w) (w' := w') (hF.block g (by omega) (hS g h1 h2))).trans k1, k2.kept hF hB hS⟩
theorem RdW.still {w w' : World} {lo hi : Nat} {A : Option Addr} {W : List (List Int)} (h : RdW w lo hi A W) (hF : Fr (fun _ => False) w w') (hB : hi ≤ w.heap.size) : RdW w' lo hi A W := h.kept hF hB (fun _ _ _ e => e)
theorem RdW.at_ {w : World} {lo hi : Nat} {A : Option Addr} {W : List (List Int)} (h : RdW w lo hi A W) {j : Nat} {r : List Int} (hj : W[j]? = some r) : ∃ g A' c, A = some ⟨g, 0, none⟩ ∧ lo ≤ g ∧ g < hi ∧ w.cell? ⟨g, j, none⟩ = some (.slice A' r.length c) ∧ RdT w lo hi A' r := by
  obtain ⟨g, e, h1, h2, hc⟩ := h (by rintro rfl; simp at hj)
  obtain ⟨A', c, k1, k2⟩ := hc j r hj
  exact ⟨g, A', c, e, h1, h2, k1, k2⟩

theorem long_take {W : List (List Int)} {k : Nat} {r : List Int} (h : W[k]? = some r) : longW (W.take (k + 1)) = max (longW (W.take k)) r.length := by
  unfold longW
  rw [List.take_add_one, h, List.foldl_append]
  rfl
theorem fix_get {k : Nat} (h : k < 288) : fixI[k]? = some (if k ≤ 143 then 8 else if k ≤ 255 then 9 else if k ≤ 279 then 7 else 8) := by
  unfold fixI
  rw [List.getElem?_map, List.getElem?_range h]
  rfl
theorem fix_len : fixI.length = 288 := by unfold fixI; simp
set_option maxHeartbeats 4000000 in
theorem rfixed (w : World) : Calls Tryz.prog 45 #[] w (NewL w fixI) := by
  obtain ⟨i0, hi, hz0, hz1, hz2⟩ := info_parts infoI
  have HI := Lib.hid (⟨hi, hz0, hz1, hz2⟩ : _ ∧ _ ∧ _ ∧ _)
  have H0 := Lib.hid (⟨ownI_nil w, (Fr.refl (fun _ => False) w).alloc (.cells #[] 3)⟩ : _ ∧ _)
  clear hi hz0 hz1 hz2
  go_enter Tryz.func45, Tryz.ntmps45
  go_wp2_with fail
  go_loopw [1, 2] (fun v1 v2 wr => ∃ (k : Nat) (p : Option Addr) (c : Nat), k ≤ 288 ∧ v2 = .int .i64 k ∧ v1 = .slice p k c ∧ Hid (wr.ownsRow w.heap.size 3 1 (.slice p k c) k (is (fixI.take k)) ∧ Fr (fun _ => False) w wr)) (fun _ v _ => 288 - (intOf v).toNat)
  case atStart => exact ⟨0, _, _, Nat.zero_le _, rfl, rfl, H0⟩
  case round =>
    obtain ⟨k, p, c, hk, rfl, rfl, HK⟩ := hrel
    clear H0
    by_cases hlt : k < 288
    · have hget := fix_get hlt
      have hlen : k = (fixI.take k).length := by rw [List.length_take, fix_len]; omega
      have HL := Lib.hid hlen
      have htk : ∀ u : Int, fixI[k]? = some u → fixI.take k ++ [u] = fixI.take (k + 1) := fun u hu => by rw [List.take_add_one, hu]; rfl
      have HT := Lib.hid htk
      clear hlen htk
      have hcase : k ≤ 143 ∨ (144 ≤ k ∧ k ≤ 255) ∨ (256 ≤ k ∧ k ≤ 279) ∨ (280 ≤ k) := by omega
      rcases hcase with g1 | ⟨g1, g2⟩ | ⟨g1, g2⟩ | g1
      · have HU := Lib.hid (HT.out 8 (by rw [hget]; first | rw [if_pos (by omega)] | rw [if_neg (by omega), if_pos (by omega)] | rw [if_neg (by omega), if_neg (by omega), if_pos (by omega)] | rw [if_neg (by omega), if_neg (by omega), if_neg (by omega)]))
        have HFX := Lib.hid (HK.out.2.alloc (.cells #[.int .i64 8] 3))
        clear hget HT
        go_wp2_with (at_builtin; refine wpList_append_own _ rfl (.tmp 21) (.tmp 23) 66 rfl w.heap.size 3 i0 (.int .i64 0) 1 8 Tryz.underlying66 HI.out.1 HI.out.2.1 HI.out.2.2.1 HI.out.2.2.2 rfl (by omega) _ k (is (fixI.take k)) rfl (World.ownsRow.alloc HK.out.1 _) ⟨wr.heap.size, 0, none⟩ 1 1 [.int .i64 8] rfl rfl (newsI _ (heap_alloc_new _ _)) (oneI _) (by unfold maxLen; omega) (by omega) HFX.out.size ?_; intro v9 w9 hown9 hg9 _)
        obtain ⟨p', c', e', hl', ho', hF'⟩ := snocI HL.out (World.ownsRow.alloc HK.out.1 _) HFX.out hown9 hg9
        subst e'
        rw [HU.out] at ho'
        have H9 := Lib.hid (⟨ho', hF'⟩ : _ ∧ _)
        clear hown9 hg9 hl' ho' hF'
        go_wp2_with fail
        go_roundw
        case rel => exact ⟨k + 1, p', c', by omega, by go_num, rfl, H9⟩
        case measure => simp [intOf]; omega
      · have HU := Lib.hid (HT.out 9 (by rw [hget]; first | rw [if_pos (by omega)] | rw [if_neg (by omega), if_pos (by omega)] | rw [if_neg (by omega), if_neg (by omega), if_pos (by omega)] | rw [if_neg (by omega), if_neg (by omega), if_neg (by omega)]))
        have HFX := Lib.hid (HK.out.2.alloc (.cells #[.int .i64 9] 3))
        clear hget HT
        go_wp2_with (at_builtin; refine wpList_append_own _ rfl (.tmp 21) (.tmp 23) 66 rfl w.heap.size 3 i0 (.int .i64 0) 1 8 Tryz.underlying66 HI.out.1 HI.out.2.1 HI.out.2.2.1 HI.out.2.2.2 rfl (by omega) _ k (is (fixI.take k)) rfl (World.ownsRow.alloc HK.out.1 _) ⟨wr.heap.size, 0, none⟩ 1 1 [.int .i64 9] rfl rfl (newsI _ (heap_alloc_new _ _)) (oneI _) (by unfold maxLen; omega) (by omega) HFX.out.size ?_; intro v9 w9 hown9 hg9 _)
        obtain ⟨p', c', e', hl', ho', hF'⟩ := snocI HL.out (World.ownsRow.alloc HK.out.1 _) HFX.out hown9 hg9
        subst e'
        rw [HU.out] at ho'
        have H9 := Lib.hid (⟨ho', hF'⟩ : _ ∧ _)
        clear hown9 hg9 hl' ho' hF'
        go_wp2_with fail
        go_roundw
        case rel => exact ⟨k + 1, p', c', by omega, by go_num, rfl, H9⟩
        case measure => simp [intOf]; omega
      · have HU := Lib.hid (HT.out 7 (by rw [hget]; first | rw [if_pos (by omega)] | rw [if_neg (by omega), if_pos (by omega)] | rw [if_neg (by omega), if_neg (by omega), if_pos (by omega)] | rw [if_neg (by omega), if_neg (by omega), if_neg (by omega)]))
        have HFX := Lib.hid (HK.out.2.alloc (.cells #[.int .i64 7] 3))
        clear hget HT
        go_wp2_with (at_builtin; refine wpList_append_own _ rfl (.tmp 21) (.tmp 23) 66 rfl w.heap.size 3 i0 (.int .i64 0) 1 8 Tryz.underlying66 HI.out.1 HI.out.2.1 HI.out.2.2.1 HI.out.2.2.2 rfl (by omega) _ k (is (fixI.take k)) rfl (World.ownsRow.alloc HK.out.1 _) ⟨wr.heap.size, 0, none⟩ 1 1 [.int .i64 7] rfl rfl (newsI _ (heap_alloc_new _ _)) (oneI _) (by unfold maxLen; omega) (by omega) HFX.out.size ?_; intro v9 w9 hown9 hg9 _)
        obtain ⟨p', c', e', hl', ho', hF'⟩ := snocI HL.out (World.ownsRow.alloc HK.out.1 _) HFX.out hown9 hg9
        subst e'
        rw [HU.out] at ho'
        have H9 := Lib.hid (⟨ho', hF'⟩ : _ ∧ _)
        clear hown9 hg9 hl' ho' hF'
        go_wp2_with fail
        go_roundw
        case rel => exact ⟨k + 1, p', c', by omega, by go_num, rfl, H9⟩
        case measure => simp [intOf]; omega
      · have HU := Lib.hid (HT.out 8 (by rw [hget]; first | rw [if_pos (by omega)] | rw [if_neg (by omega), if_pos (by omega)] | rw [if_neg (by omega), if_neg (by omega), if_pos (by omega)] | rw [if_neg (by omega), if_neg (by omega), if_neg (by omega)]))
        have HFX := Lib.hid (HK.out.2.alloc (.cells #[.int .i64 8] 3))
        clear hget HT
        go_wp2_with (at_builtin; refine wpList_append_own _ rfl (.tmp 21) (.tmp 23) 66 rfl w.heap.size 3 i0 (.int .i64 0) 1 8 Tryz.underlying66 HI.out.1 HI.out.2.1 HI.out.2.2.1 HI.out.2.2.2 rfl (by omega) _ k (is (fixI.take k)) rfl (World.ownsRow.alloc HK.out.1 _) ⟨wr.heap.size, 0, none⟩ 1 1 [.int .i64 8] rfl rfl (newsI _ (heap_alloc_new _ _)) (oneI _) (by unfold maxLen; omega) (by omega) HFX.out.size ?_; intro v9 w9 hown9 hg9 _)
        obtain ⟨p', c', e', hl', ho', hF'⟩ := snocI HL.out (World.ownsRow.alloc HK.out.1 _) HFX.out hown9 hg9
        subst e'
        rw [HU.out] at ho'
        have H9 := Lib.hid (⟨ho', hF'⟩ : _ ∧ _)
        clear hown9 hg9 hl' ho' hF'
        go_wp2_with fail
        go_roundw
        case rel => exact ⟨k + 1, p', c', by omega, by go_num, rfl, H9⟩
        case measure => simp [intOf]; omega
    · obtain rfl : k = 288 := by omega
      go_wp2_with fail
      go_ret
      obtain ⟨h1, h2⟩ := HK.out
      rw [List.take_of_length_le (by rw [fix_len]; exact Nat.le_refl _)] at h1
      exact ⟨p, c, by rw [fix_len]; rfl, (show World.ownsRow _ _ _ _ _ _ _ by rw [fix_len]; exact h1), h2⟩

/-! ### same -/
end Go.Proofs.YtcdhakfmljjaoaaGreatDoor.cd

/-
  The document's Words.
-/
namespace Go.Proofs.YtcdhakfmljjaoaaGreatDoor.cd
set_option maxRecDepth 100000
open Go.RowKit Go.Maps Go.Proofs.YtcdhakfmljjaoaaGreatDoor.fl
set_option maxRecDepth 100000

/-- Is the word of symbol j laid when symbol i of length n is come to? -/
def dn (l : List Int) (n i j : Nat) : Bool := decide (1 ≤ lenN l j) && (decide (lenN l j < n) || decide (lenN l j = n) && decide (j < i))
def wd (l : List Int) (n i j : Nat) : List Int := if dn l n i j = true then wordB l j else []
def Wl (l : List Int) (n i : Nat) : List (List Int) := (List.range l.length).map (wd l n i)
theorem Wl_len (l : List Int) (n i : Nat) : (Wl l n i).length = l.length := by unfold Wl; simp
theorem Wl_get {l : List Int} {n i j : Nat} (h : j < l.length) : (Wl l n i)[j]? = some (wd l n i j) := by
  unfold Wl
  rw [List.getElem?_map, List.getElem?_range h]
  rfl
theorem Wl_start (l : List Int) : Wl l 1 0 = List.replicate l.length [] := by
  apply List.ext_getElem?
  intro j
  by_cases h : j < l.length
  · rw [Wl_get h, List.getElem?_replicate, if_pos h]
    have : dn l 1 0 j = false := by
      unfold dn
      simp
      omega
    unfold wd
    rw [this]
    rfl
  · rw [List.getElem?_eq_none (by rw [Wl_len]; omega), List.getElem?_eq_none (by rw [List.length_replicate]; omega)]
theorem lenN_get {l : List Int} {i : Nat} {x : Int} (h : l[i]? = some x) : lenN l i = x.toNat := by
  unfold lenN
  rw [h]
  rfl
theorem Wl_skip {l : List Int} {n i : Nat} {x : Int} (h : l[i]? = some x) (h0 : 0 ≤ x) (hne : x ≠ (n : Int)) : Wl l n (i + 1) = Wl l n i := by
  unfold Wl
  apply List.map_congr_left
  intro j _
  have hx := lenN_get h
  have : dn l n (i + 1) j = dn l n i j := by
    unfold dn
    by_cases e : lenN l j = n
    · have hj : j ≠ i := by
        rintro rfl
        omega
      have : decide (j < i + 1) = decide (j < i) := by
        apply decide_eq_decide.2
        omega
      rw [this]
    · rw [decide_eq_false e]
      simp
  unfold wd
  rw [this]
theorem Wl_set {l : List Int} {n i : Nat} (h : Has l i n) : Wl l n (i + 1) = (Wl l n i).set i (wordB l i) := by
  apply List.ext_getElem?
  intro j
  by_cases hj : j < l.length
  · rw [Wl_get hj, List.getElem?_set]
    by_cases e : i = j
    · subst e
      rw [if_pos rfl, if_pos (by rw [Wl_len]; exact hj)]
      unfold wd
      rw [if_pos]
      unfold dn
      rw [h.len]
      have := h.2
      simp
      omega
    · rw [if_neg e, Wl_get hj]
      have : dn l n (i + 1) j = dn l n i j := by
        unfold dn
        have : decide (j < i + 1) = decide (j < i) := by
          apply decide_eq_decide.2
          omega
        rw [this]
      unfold wd
      rw [this]
  · rw [List.getElem?_eq_none (by rw [Wl_len]; omega), List.getElem?_eq_none (by rw [List.length_set, Wl_len]; omega)]
theorem Wl_next (l : List Int) (n : Nat) : Wl l (n + 1) 0 = Wl l n l.length := by
  unfold Wl
  apply List.map_congr_left
  intro j hj
  have hj := List.mem_range.1 hj
  have : dn l (n + 1) 0 j = dn l n l.length j := by
    unfold dn
    rw [decide_eq_true hj, decide_eq_false (Nat.not_lt_zero j), Bool.and_false, Bool.or_false, Bool.and_true]
    congr 1
    rw [Bool.eq_iff_iff]
    simp
    omega
  unfold wd
  rw [this]
theorem Wl_end {l : List Int} (h : okB l = true) : Wl l 16 0 = wordsL l := by
  unfold Wl wordsL
  apply List.map_congr_left
  intro j _
  have h15 := lenN_le h j
  unfold wd
  by_cases e : 1 ≤ lenN l j
  · rw [if_pos]
    unfold dn
    simp
    omega
  · rw [if_neg (by unfold dn; rw [decide_eq_false e]; simp)]
    have : (wordB l j).length = 0 := by rw [wordB_length]; omega
    exact (List.eq_nil_of_length_eq_zero this).symm

/-- The words so far, in the row that was made. -/
def Ow (w : World) (g : Nat) (W : List (List Int)) : Prop :=
  ∃ cs : Array Value, w.heap[g]? = some (.cells cs 66 (0, 0)) ∧ cs.size = W.length ∧ ∀ (j : Nat) (r : List Int), W[j]? = some r → ∃ A' c, cs[j]? = some (Value.slice A' r.length c) ∧ RdT w (g + 1) w.heap.size A' r
theorem RdT.wide {w : World} {lo hi lo' hi' : Nat} {A : Option Addr} {l : List Int} (h : RdT w lo hi A l) (h1 : lo' ≤ lo) (h2 : hi ≤ hi') : RdT w lo' hi' A l := fun hne => by
  obtain ⟨blk, off, e, k1, k2, hc⟩ := h hne
  exact ⟨blk, off, e, by omega, by omega, hc⟩
theorem Ow.lt {w : World} {g : Nat} {W : List (List Int)} (h : Ow w g W) : g < w.heap.size := by
  obtain ⟨cs, h1, _⟩ := h
  exact (Array.getElem?_eq_some_iff.1 h1).1
theorem Ow.still {w w' : World} {g : Nat} {W : List (List Int)} (h : Ow w g W) (hF : Fr (fun _ => False) w w') : Ow w' g W := by
  have hlt := h.lt
  obtain ⟨cs, h1, h2, h3⟩ := h
  refine ⟨cs, (hF.block g hlt id).trans h1, h2, fun j r hj => ?_⟩
  obtain ⟨A', c, k1, k2⟩ := h3 j r hj
  exact ⟨A', c, k1, RdT.wide (k2.kept hF (Nat.le_refl _) (fun _ _ _ e => e)) (Nat.le_refl _) hF.size⟩
theorem Ow.cell {w : World} {g : Nat} {W : List (List Int)} (h : Ow w g W) {j : Nat} (hj : j < W.length) : (∃ v, w.cell? ⟨g, j, none⟩ = some v) ∧ w.frozen? ⟨g, j, none⟩ = false := by
  obtain ⟨cs, h1, h2, h3⟩ := h
  obtain ⟨A', c, k1, _⟩ := h3 j W[j] (List.getElem?_eq_getElem hj)
  exact ⟨⟨_, (cellAt h1 j).trans k1⟩, freeAt h1 j⟩
theorem Ow.set {w : World} {g : Nat} {W : List (List Int)} (h : Ow w g W) {j : Nat} {A : Option Addr} {r : List Int} {c : Nat} (hr : RdT w (g + 1) w.heap.size A r) : Ow (w.setCell ⟨g, j, none⟩ (.slice A r.length c)) g (W.set j r) := by
  obtain ⟨cs, h1, h2, h3⟩ := h
  have hF : Fr (fun i => i = g) w (w.setCell ⟨g, j, none⟩ (.slice A r.length c)) := (Fr.refl (fun i => i = g) w).setCell (p := ⟨g, j, none⟩) (Or.inl rfl) _
  refine ⟨cs.setIfInBounds j (.slice A r.length c), heap_setCell_same _ _ _ _ _ _ h1, by rw [Array.size_setIfInBounds, List.length_set]; exact h2, fun k s hk => ?_⟩
  rw [List.getElem?_set] at hk
  have hsz : (w.setCell ⟨g, j, none⟩ (.slice A r.length c)).heap.size = w.heap.size := by simp [World.setCell]
  rw [hsz]
  by_cases e : j = k
  · subst e
    rw [if_pos rfl] at hk
    split at hk
    · next hlt =>
      cases hk
      refine ⟨A, c, ?_, hr.kept hF (Nat.le_refl _) (fun i a _ e => by omega)⟩
      rw [Array.getElem?_setIfInBounds_self_of_lt (by omega)]
    · cases hk
  · rw [if_neg e] at hk
    obtain ⟨A', c', k1, k2⟩ := h3 k s hk
    exact ⟨A', c', by rw [Array.getElem?_setIfInBounds_ne e]; exact k1, k2.kept hF (Nat.le_refl _) (fun i a _ e => by omega)⟩
theorem Ow.rd {w : World} {g : Nat} {W : List (List Int)} (h : Ow w g W) : RdW w g w.heap.size (some ⟨g, 0, none⟩) W := fun _ => by
  have hlt := h.lt
  obtain ⟨cs, h1, h2, h3⟩ := h
  refine ⟨g, rfl, Nat.le_refl _, hlt, fun j r hj => ?_⟩
  obtain ⟨A', c, k1, k2⟩ := h3 j r hj
  exact ⟨A', c, (cellAt h1 j).trans k1, RdT.wide k2 (Nat.le_succ _) (Nat.le_refl _)⟩
theorem infoL : (Tryz.prog.info? 66).map (fun i => (i.zero, i.size, i.bytes)) = some (some (.slice none 0 0), 1, 24) := by kernel_rfl
theorem run_make_lists (n : Nat) (h : n ≤ 1000) (w : World) :
    (Instr.makeSlice 64 (.int .i64 (n : Int)) (.int .i64 (n : Int))).run Tryz.prog w = .ok (.slice (some ⟨w.heap.size, 0, none⟩) n n) (w.alloc (.cells (List.replicate n (Value.slice none 0 0)).toArray 66)) := by
  obtain ⟨i0, hi, hz0, hz1, hz2⟩ := info_parts infoL
  have hr := run_make (P := Tryz.prog) w 64 66 i0 (.slice none 0 0) Tryz.underlying64 hi hz0 .i64 .i64 n n (by omega) (by omega) (by rw [hz2]; omega) (by omega)
  rw [hr, Int.toNat_natCast, hz1, Nat.mul_one]
  have : madeCells (Value.slice none 0 0).cells n = (List.replicate n (Value.slice none 0 0)).toArray := by
    apply Array.toList_inj.1
    exact toList_madeCells_one _ _
  rw [this]
theorem Ow.made (w : World) (n : Nat) : Ow (w.alloc (.cells (List.replicate n (Value.slice none 0 0)).toArray 66)) w.heap.size (List.replicate n []) := by
  refine ⟨_, heap_alloc_new _ _, by simp, fun j r hj => ?_⟩
  rw [List.getElem?_replicate] at hj
  split at hj
  · next hlt =>
    cases hj
    exact ⟨none, 0, by simp [hlt], fun h => absurd rfl h⟩
  · cases hj
theorem word_next {l : List Int} (_ : okB l = true) {i n : Nat} (hs : Has l i n) (hn : n ≤ 15) : (lowL ((2 * lim l (n - 1) + cnt (l.take i) n : Nat) : Int) (n : Int)).reverse = wordB l i := by
  unfold lowL wordB
  rw [if_pos ((mayB_iff _ _).2 ⟨by omega, by omega, by omega⟩), hs.len, hs.word]
  rfl
theorem next_in {l : List Int} (h : okB l = true) {n : Nat} (h1 : 1 ≤ n) (hn : n ≤ 15) (i : Nat) : 2 * lim l (n - 1) + cnt (l.take i) n ≤ 32768 := by
  obtain ⟨m, rfl⟩ : ∃ m, n = m + 1 := ⟨n - 1, by omega⟩
  have h2 := lim_le (l := l) (by have := ((okB_iff l).1 h).2.2; omega) (n := m + 1) hn
  have h3 := cnt_take_le l i (m + 1)
  have h4 : 2 ^ (m + 1) ≤ 2 ^ 15 := Nat.pow_le_pow_right (by omega) hn
  rw [lim] at h2
  rw [Nat.add_sub_cancel]
  omega

set_option maxHeartbeats 4000000 in
theorem rwords (w : World) (A : Option Addr) (cap : Nat) (l : List Int) (hr : RdI w w.heap.size A l) (hok : okB l = true) :
    Calls Tryz.prog 44 #[.slice A l.length cap] w fun e w' => ∃ A' c', e = .returned (.slice A' l.length c') ∧ RdW w' w.heap.size w'.heap.size A' (wordsL l) ∧ Fr (fun _ => False) w w' := by
  obtain ⟨n, hn⟩ : ∃ n, n = l.length := ⟨_, rfl⟩
  have hn288 : n ≤ 288 := by rw [hn]; exact ((okB_iff l).1 hok).1
  have HR := Lib.hid (⟨hr, hn, hok⟩ : _ ∧ _ ∧ _)
  have HIN := Lib.hid ((okB_iff l).1 hok).2.1
  rw [← hn]
  have hmk := run_make_lists n (by omega)
  obtain ⟨g, hg⟩ : ∃ g, g = w.heap.size := ⟨_, rfl⟩
  have H0 := Lib.hid (⟨by rw [hg, Wl_start, ← hn]; exact Ow.made w n, (Fr.refl (fun _ => False) w).alloc _⟩ : Ow (w.alloc (.cells (List.replicate n (Value.slice none 0 0)).toArray 66)) g (Wl l 1 0) ∧ Fr (fun _ => False) w (w.alloc (.cells (List.replicate n (Value.slice none 0 0)).toArray 66)))
  have HG := Lib.hid hg
  clear hr hn hok hg
  go_enter Tryz.func44, Tryz.ntmps44
  go_wp2_with fail
  rw [← HG.out]
  go_loopw [4, 5] (fun v4 v5 wr => ∃ (m N : Nat), 1 ≤ m ∧ m ≤ 16 ∧ N ≤ 65536 ∧ v5 = .int .i64 m ∧ v4 = .int .i64 N ∧ Hid (N = 2 * lim l (m - 1) ∧ Ow wr g (Wl l m 0) ∧ Fr (fun _ => False) w wr)) (fun _ v _ => 16 - (intOf v).toNat)
  case atStart => exact ⟨1, 0, by omega, by omega, by omega, rfl, rfl, (show _ ∧ _ from ⟨rfl, H0.out⟩)⟩
  case round =>
    obtain ⟨m, N, hm1, hm2, hN, rfl, rfl, HM⟩ := hrel
    clear H0 hmk
    by_cases hlt : m ≤ 15
    · go_wp2_with fail
      simp only [show decide ((m : Int) ≤ 15) = true from decide_eq_true (by omega)]
      go_loopw [4, 6] (fun v4 v6 wr => ∃ (i K : Nat), i ≤ n ∧ K ≤ 32768 ∧ v6 = .int .i64 i ∧ v4 = .int .i64 K ∧ Hid (K = 2 * lim l (m - 1) + cnt (l.take i) m ∧ Ow wr g (Wl l m i) ∧ Fr (fun _ => False) w wr)) (fun _ v _ => n - (intOf v).toNat)
      case atStart => exact ⟨0, N, Nat.zero_le _, by have := next_in HR.out.2.2 hm1 hlt 0; have := HM.out.1; omega, rfl, rfl, (show _ ∧ _ from ⟨by rw [HM.out.1]; rfl, HM.out.2⟩)⟩
      case round =>
        obtain ⟨i, K, hi, hK, rfl, rfl, HK⟩ := hrel
        by_cases hlt2 : i < n
        · have hil : i < l.length := by have := HR.out.2.1; omega
          have hget := List.getElem?_eq_getElem hil
          obtain ⟨blk, off, rfl, -, hc, -, -⟩ := (HR.out.1.still HK.out.2.2 (Nat.le_refl _)).at_ hil
          have hx0 := (HIN.out l[i] (List.getElem_mem hil)).1
          obtain ⟨x, hx⟩ : ∃ x, x = l[i] := ⟨_, rfl⟩
          rw [← hx] at hc hget hx0
          have hct := cnt_take_succ hget m
          have HI := Lib.hid hil
          clear hx hil HM
          by_cases he : x = (m : Int)
          · subst he
            have hhas : Has l i m := ⟨hget, hm1⟩
            rw [if_pos rfl] at hct
            have hw := word_next HR.out.2.2 hhas hlt
            rw [← HK.out.1] at hw
            have HH := Lib.hid (rhigh wr (K : Int) (m : Int) (by omega))
            rw [hw] at HH
            have hl := wordB_length l i
            rw [hhas.len] at hl
            have hK1 := next_in HR.out.2.2 hm1 hlt (i + 1)
            rw [hct] at hK1
            have hK2 : K + 1 ≤ 32768 := by have := HK.out.1; omega
            have HS := Lib.hid (⟨hhas, hct, hl⟩ : _ ∧ _ ∧ _)
            obtain ⟨bb, hbb⟩ : ∃ bb, bb = lowB (K : Int) (m : Int) := ⟨_, rfl⟩
            unfold NewT at HH
            rw [hl, ← hbb] at HH
            clear hget hhas hct hw hl hK1 hbb
            go_wp2_with fail
            refine HH.out.mono ?_
            rintro e w1 ⟨A1, c1, rfl, ho, hF⟩
            have hW1 := HK.out.2.1.still hF
            obtain ⟨⟨v0, q1⟩, q2⟩ := hW1.cell (j := i) (by rw [Wl_len]; exact HI.out)
            have hrow : RdT w1 (g + 1) w1.heap.size A1 (wordB l i) := fun hne => by
              have hom : OwnI w1 wr.heap.size (.slice A1 (wordB l i).length c1) (wordB l i) := by
                rw [HS.out.2.2]
                exact ho
              obtain ⟨g', e1, e2, e3, e4⟩ := hom.cell hne
              exact ⟨g', 0, e1, Nat.le_trans HK.out.2.1.lt e2, e3, fun j x hj => by rw [Nat.zero_add]; exact e4 j x hj⟩
            have hset := hW1.set (j := i) (c := c1) hrow
            rw [HS.out.2.2, ← Wl_set HS.out.1] at hset
            have HZ := Lib.hid (⟨by rw [HS.out.2.1, HK.out.1]; omega, hset, (HK.out.2.2.trans hF (fun _ _ e => e)).setCell (p := ⟨g, i, none⟩) (Or.inr (by rw [HG.out]; exact Nat.le_refl _)) _⟩ : K + 1 = 2 * lim l (m - 1) + cnt (l.take (i + 1)) m ∧ Ow (w1.setCell ⟨g, i, none⟩ (.slice A1 m c1)) g (Wl l m (i + 1)) ∧ Fr (fun _ => False) w (w1.setCell ⟨g, i, none⟩ (.slice A1 m c1)))
            clear ho hF hW1 hrow hset hc
            go_wp2_with fail
            go_roundw
            case rel => exact ⟨i + 1, K + 1, by omega, by omega, by go_num, by go_num, HZ⟩
            case measure => simp [intOf]; omega
          · rw [if_neg he] at hct
            have HZ := Lib.hid (⟨by rw [hct]; exact HK.out.1, by rw [Wl_skip hget hx0 he]; exact HK.out.2.1, HK.out.2.2⟩ : K = 2 * lim l (m - 1) + cnt (l.take (i + 1)) m ∧ Ow wr g (Wl l m (i + 1)) ∧ Fr (fun _ => False) w wr)
            have hne : (x == (m : Int)) = false := by simpa using he
            clear hget hct he
            go_wp2_with fail
            go_roundw
            case rel => exact ⟨i + 1, K, by omega, by omega, by go_num, rfl, HZ⟩
            case measure => simp [intOf]; omega
        · obtain rfl : i = n := by omega
          have HZ := Lib.hid (⟨by
              have h1 := HK.out.1
              rw [List.take_of_length_le (by have := HR.out.2.1; omega)] at h1
              obtain ⟨q, rfl⟩ : ∃ q, m = q + 1 := ⟨m - 1, by omega⟩
              rw [h1, Nat.add_sub_cancel, Nat.add_sub_cancel]
              rfl, by rw [Wl_next, ← HR.out.2.1]; exact HK.out.2⟩ : 2 * K = 2 * lim l (m + 1 - 1) ∧ Ow wr g (Wl l (m + 1) 0) ∧ Fr (fun _ => False) w wr)
          go_wp2_with fail
          go_roundw
          case rel => exact ⟨m + 1, 2 * K, by omega, by omega, by omega, by go_num, by go_num, HZ⟩
          case measure => simp [intOf]; omega
    · obtain rfl : m = 16 := by omega
      go_wp2_with fail
      go_ret
      have h1 : RdW wr w.heap.size wr.heap.size (some ⟨g, 0, none⟩) (wordsL l) := by
        rw [← Wl_end HR.out.2.2, ← HG.out]
        exact HM.out.2.1.rd
      exact ⟨_, _, rfl, h1, HM.out.2.2⟩
end Go.Proofs.YtcdhakfmljjaoaaGreatDoor.cd

/-
  The document's Read.
-/

namespace Go.Proofs.YtcdhakfmljjaoaaGreatDoor.cd
set_option maxRecDepth 100000
open Go.RowKit Go.Maps Go.Proofs.YtcdhakfmljjaoaaGreatDoor.fl
set_option maxRecDepth 100000

theorem take_one {B : List Int} {p : Nat} {x : Int} (h : B[p]? = some x) : takeV B p 1 = (x, 0) ∧ takeA B p 1 = p + 1 := by
  obtain ⟨h1, h2⟩ := List.getElem?_eq_some_iff.1 h
  have ht := takeV_in (L := B) (p := p) (n := 1) (by omega)
  rw [if_neg (by omega), if_neg (by omega)] at ht
  refine ⟨ht.1.trans ?_, ht.2⟩
  rw [List.drop_eq_getElem_cons h1, h2]
  simp [numI]
theorem take_end {B : List Int} {p : Nat} (h : B[p]? = none) (hp : p ≤ B.length) : takeV B p 1 = (0, 7) ∧ takeA B p 1 = p := by
  have h1 := List.getElem?_eq_none_iff.1 h
  have ht := takeV_in (L := B) (p := p) (n := 1) (by omega)
  rw [if_pos (by omega), if_pos (by omega)] at ht
  exact ht
theorem find_step {W : List (List Int)} {got r : List Int} {i : Nat} (hi : W[i]? = some r) (h : findW (W.take i) got = none) (hn : isW got r = false) : findW (W.take (i + 1)) got = none := by
  unfold findW at *
  rw [List.findIdx?_eq_none_iff] at *
  intro x hx
  rw [List.take_add_one, hi] at hx
  rcases List.mem_append.1 hx with hx | hx
  · exact h x hx
  · have e : x = r := by simpa using hx
    rw [e]
    exact hn
theorem find_here {W : List (List Int)} {got r : List Int} {i : Nat} (hi : W[i]? = some r) (h : findW (W.take i) got = none) (hn : isW got r = true) : findW W got = some i := by
  unfold findW at *
  rw [List.findIdx?_eq_none_iff] at h
  obtain ⟨h1, h2⟩ := List.getElem?_eq_some_iff.1 hi
  refine List.findIdx?_eq_some_iff_getElem.2 ⟨h1, by rw [h2]; exact hn, fun j hj => ?_⟩
  have hm : W[j] ∈ W.take i := List.mem_of_getElem? (i := j) (by rw [List.getElem?_take, if_pos hj]; exact List.getElem?_eq_getElem (by omega))
  rw [h _ hm]
  simp
def lenOf : Value → Nat
  | .slice _ n _ => n
  | _ => 0
theorem isW_nil (got : List Int) : isW got [] = false := rfl
theorem isW_some {got r : List Int} (h : 0 < r.length) : isW got r = decide (r = got) := by
  unfold isW
  cases r with
  | nil => simp at h
  | cons _ _ => rfl
/-- A row of the call's own stays, whatever turns ahead of it. -/
theorem own_past {w w' : World} {base : Nat} {v : Value} {n : Nat} {xs : List Value} {S : Nat → Prop} (h : w.ownsRow base 3 1 v n xs) (hF : Fr S w w') (hS : ∀ i, base ≤ i → ¬ S i) : w'.ownsRow base 3 1 v n xs := by
  obtain ⟨h1, h2⟩ := h
  refine ⟨h1, ?_⟩
  rcases h2 with h2 | ⟨g, cap, cur, hv, hg, hh, r⟩
  · exact Or.inl h2
  · exact Or.inr ⟨g, cap, cur, hv, hg, (hF.block g (Array.getElem?_eq_some_iff.1 hh).1 (hS g hg)).trans hh, r⟩
theorem snocS {w0 w w' : World} {S : Nat → Prop} {p : Option Addr} {m c : Nat} {L : List Int} {x : Int} {v : Value} (hm : m = L.length) (ho : w.ownsRow w0.heap.size 3 1 (.slice p m c) m (is L)) (hF : Fr S w0 w)
    (hown : w'.ownsRow w0.heap.size 3 1 v (m + 1) (is L ++ [.int .i64 x])) (hg : w.grownBy w' (Value.slice p m c).ownBlock) : ∃ p' c', v = .slice p' (m + 1) c' ∧ m + 1 = (L ++ [x]).length ∧ w'.ownsRow w0.heap.size 3 1 (.slice p' (m + 1) c') (m + 1) (is (L ++ [x])) ∧ Fr S w0 w' := by
  have hl : m + 1 = (L ++ [x]).length := by rw [List.length_append, ← hm]; rfl
  obtain ⟨p', c', e, h⟩ := OwnI.shape (l := L ++ [x]) hl (by rw [is_append]; rfl) hown
  rw [← hl] at e h
  unfold OwnI at h
  rw [← hl] at h
  exact ⟨p', c', e, hl, h, hF.grown hg (fun q e => (own_geI ho e).imp (fun h => h.elim) id)⟩
end Go.Proofs.YtcdhakfmljjaoaaGreatDoor.cd
