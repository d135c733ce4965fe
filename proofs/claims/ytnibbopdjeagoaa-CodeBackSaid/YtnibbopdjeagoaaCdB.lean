/-
  The document's Fixed, same and longest.
-/
import Derived.Test.YtnibbopdjeagoaaCdA
namespace Go.Proofs.Ytnibbopdjeagoaa.cd
set_option maxRecDepth 100000
open Go.RowKit Go.Maps Go.Proofs.Ytnibbopdjeagoaa.fl
set_option maxRecDepth 100000

/-- A slice of slices of bits whose rows lie in blocks from lo on, below hi. -/
def RdW (w : World) (lo hi : Nat) (A : Option Addr) (W : List (List Int)) : Prop :=
  W ≠ [] → ∃ g, A = some ⟨g, 0, none⟩ ∧ lo ≤ g ∧ g < hi ∧ ∀ j r, W[j]? = some r → ∃ A' c, w.cell? ⟨g, j, none⟩ = some (.slice A' r.length c) ∧ RdT w lo hi A' r
theorem RdW.kept {w w' : World} {lo hi : Nat} {A : Option Addr} {W : List (List Int)} (h : RdW w lo hi A W) {S : Nat → Prop} (hF : Fr S w w') (hB : hi ≤ w.heap.size) (hS : ∀ i, lo ≤ i → i < hi → ¬ S i) : RdW w' lo hi A W := fun hne => by
  obtain ⟨g, e, h1, h2, hc⟩ := h hne
  refine ⟨g, e, h1, h2, fun j r hj => ?_⟩
  obtain ⟨A', c, k1, k2⟩ := hc j r hj
  exact ⟨A', c, (World.cell?_of_block (w := w) (w' := w') (hF.block g (by omega) (hS g h1 h2))).trans k1, k2.kept hF hB hS⟩
theorem RdW.still {w w' : World} {lo hi : Nat} {A : Option Addr} {W : List (List Int)} (h : RdW w lo hi A W) (hF : Fr (fun _ => False) w w') (hB : hi ≤ w.heap.size) : RdW w' lo hi A W := h.kept hF hB (fun _ _ _ e => e)
theorem RdW.at_ {w : World} {lo hi : Nat} {A : Option Addr} {W : List (List Int)} (h : RdW w lo hi A W) {j : Nat} {r : List Int} (hj : W[j]? = some r) : ∃ g A' c, A = some ⟨g, 0, none⟩ ∧ lo ≤ g ∧ g < hi ∧ w.cell? ⟨g, j, none⟩ = some (.slice A' r.length c) ∧ RdT w lo hi A' r := by
  obtain ⟨g, e, h1, h2, hc⟩ := h (by rintro rfl; simp at hj)
  obtain ⟨A', c, k1, k2⟩ := hc j r hj
  exact ⟨g, A', c, e, h1, h2, k1, k2⟩

theorem long_take {W : List (List Int)} {k : Nat} {r : List Int} (h : W[k]? = some r) : longW (W.take (k + 1)) = max (longW (W.take k)) r.length := by
  unfold longW
  rw [List.take_add_one, h, List.foldl_append]
  rfl
set_option maxHeartbeats 2000000 in
theorem rlongest (w : World) (lo hi : Nat) (A : Option Addr) (cap : Nat) (W : List (List Int)) (hr : RdW w lo hi A W) (hl : W.length ≤ 1000) (hw : ∀ r ∈ W, r.length ≤ 15) :
    Calls Try.prog 48 #[.slice A W.length cap] w fun e w' => e = .returned (.int .i64 (longW W : Nat)) ∧ w = w' := by
  obtain ⟨n, hn⟩ : ∃ n, n = W.length := ⟨_, rfl⟩
  have HR := Lib.hid (⟨hr, hn, hw⟩ : _ ∧ _ ∧ _)
  rw [← hn] at hl ⊢
  clear hr hn hw
  go_enter Try.func48, Try.ntmps48
  go_wp2_with fail
  go_loop [3, 4] (fun v3 v4 => ∃ (k m : Nat), k ≤ n ∧ m ≤ 15 ∧ v4 = .int .i64 k ∧ v3 = .int .i64 m ∧ Hid (m = longW (W.take k))) (fun _ v => n - (intOf v).toNat)
  case atStart => exact ⟨0, 0, Nat.zero_le _, by omega, rfl, rfl, (show _ = _ from rfl)⟩
  case round =>
    obtain ⟨k, m, hk, hm, rfl, rfl, HM⟩ := hrel
    by_cases hlt : k < n
    · have hkl : k < W.length := by have := HR.out.2.1; omega
      obtain ⟨r, hr⟩ : ∃ r, W[k]? = some r := ⟨_, List.getElem?_eq_getElem hkl⟩
      obtain ⟨g, A', c, rfl, h1, h2, hc, -⟩ := HR.out.1.at_ hr
      have hs := long_take hr
      rw [← HM.out] at hs
      have h15 := HR.out.2.2 r (List.mem_of_getElem? hr)
      obtain ⟨q, hq⟩ : ∃ q, q = r.length := ⟨_, rfl⟩
      rw [← hq] at hc hs h15
      clear hr hq hkl
      have hcase : m ≤ q ∨ q < m := by omega
      rcases hcase with g1 | g1
      · have HS := Lib.hid (show q = longW (W.take (k + 1)) by rw [hs]; omega)
        clear hs
        go_wp2_with fail
        go_round
        case rel => exact ⟨k + 1, q, by omega, by omega, by go_num, by first | rfl | go_num, HS⟩
        case measure => simp [intOf]; omega
      · have HS := Lib.hid (show m = longW (W.take (k + 1)) by rw [hs]; omega)
        clear hs
        go_wp2_with fail
        go_round
        case rel => exact ⟨k + 1, m, by omega, by omega, by go_num, by first | rfl | go_num, HS⟩
        case measure => simp [intOf]; omega
    · have HE := Lib.hid (show m = longW W by rw [HM.out, List.take_of_length_le (by have := HR.out.2.1; omega)])
      go_wp2_with fail
      go_ret
      exact ⟨by rw [HE.out]; rfl, rfl⟩

theorem fix_get {k : Nat} (h : k < 288) : fixI[k]? = some (if k ≤ 143 then 8 else if k ≤ 255 then 9 else if k ≤ 279 then 7 else 8) := by
  unfold fixI
  rw [List.getElem?_map, List.getElem?_range h]
  rfl
theorem fix_len : fixI.length = 288 := by unfold fixI; simp
set_option maxHeartbeats 4000000 in
theorem rfixed (w : World) : Calls Try.prog 16 #[] w (NewL w fixI) := by
  obtain ⟨i0, hi, hz0, hz1, hz2⟩ := info_parts infoI
  have HI := Lib.hid (⟨hi, hz0, hz1, hz2⟩ : _ ∧ _ ∧ _ ∧ _)
  have H0 := Lib.hid (⟨ownI_nil w, (Fr.refl (fun _ => False) w).alloc (.cells #[] 3)⟩ : _ ∧ _)
  clear hi hz0 hz1 hz2
  go_enter Try.func16, Try.ntmps16
  go_wp2_with fail
  go_loopw [1, 2] (fun v1 v2 wr => ∃ (k : Nat) (p : Option Addr) (c : Nat), k ≤ 288 ∧ v2 = .int .i64 k ∧ v1 = .slice p k c ∧ Hid (wr.ownsRow w.heap.size 3 1 (.slice p k c) k (is (fixI.take k)) ∧ Fr (fun _ => False) w wr)) (fun _ v _ => 288 - (intOf v).toNat)
  case atStart => exact ⟨0, _, _, Nat.zero_le _, rfl, rfl, H0⟩
  case round =>
    obtain ⟨k, p, c, hk, rfl, rfl, HK⟩ := hrel
    clear H0
    by_cases hlt : k < 288
    · have hget := fix_get hlt
      have hlen : k = (fixI.take k).length := by rw [List.length_take, fix_len]; omega
      have HL := Lib.hid hlen
      have htk : ∀ u : Int, fixI[k]? = some u → fixI.take k ++ [u] = fixI.take (k + 1) := fun u hu => by rw [List.take_add_one, hu]; rfl
      have HT := Lib.hid htk
      clear hlen htk
      have hcase : k ≤ 143 ∨ (144 ≤ k ∧ k ≤ 255) ∨ (256 ≤ k ∧ k ≤ 279) ∨ (280 ≤ k) := by omega
      rcases hcase with g1 | ⟨g1, g2⟩ | ⟨g1, g2⟩ | g1
      · have HU := Lib.hid (HT.out 8 (by rw [hget]; first | rw [if_pos (by omega)] | rw [if_neg (by omega), if_pos (by omega)] | rw [if_neg (by omega), if_neg (by omega), if_pos (by omega)] | rw [if_neg (by omega), if_neg (by omega), if_neg (by omega)]))
        have HFX := Lib.hid (HK.out.2.alloc (.cells #[.int .i64 8] 3))
        clear hget HT
        go_wp2_with (at_builtin; refine wpList_append_own _ rfl (.tmp 21) (.tmp 23) 22 rfl w.heap.size 3 i0 (.int .i64 0) 1 8 Try.underlying22 HI.out.1 HI.out.2.1 HI.out.2.2.1 HI.out.2.2.2 rfl (by omega) _ k (is (fixI.take k)) rfl (World.ownsRow.alloc HK.out.1 _) ⟨wr.heap.size, 0, none⟩ 1 1 [.int .i64 8] rfl rfl (newsI _ (heap_alloc_new _ _)) (oneI _) (by unfold maxLen; omega) (by omega) HFX.out.size ?_; intro v9 w9 hown9 hg9 _)
        obtain ⟨p', c', e', hl', ho', hF'⟩ := snocI HL.out (World.ownsRow.alloc HK.out.1 _) HFX.out hown9 hg9
        subst e'
        rw [HU.out] at ho'
        have H9 := Lib.hid (⟨ho', hF'⟩ : _ ∧ _)
        clear hown9 hg9 hl' ho' hF'
        go_wp2_with fail
        go_roundw
        case rel => exact ⟨k + 1, p', c', by omega, by go_num, rfl, H9⟩
        case measure => simp [intOf]; omega
      · have HU := Lib.hid (HT.out 9 (by rw [hget]; first | rw [if_pos (by omega)] | rw [if_neg (by omega), if_pos (by omega)] | rw [if_neg (by omega), if_neg (by omega), if_pos (by omega)] | rw [if_neg (by omega), if_neg (by omega), if_neg (by omega)]))
        have HFX := Lib.hid (HK.out.2.alloc (.cells #[.int .i64 9] 3))
        clear hget HT
        go_wp2_with (at_builtin; refine wpList_append_own _ rfl (.tmp 21) (.tmp 23) 22 rfl w.heap.size 3 i0 (.int .i64 0) 1 8 Try.underlying22 HI.out.1 HI.out.2.1 HI.out.2.2.1 HI.out.2.2.2 rfl (by omega) _ k (is (fixI.take k)) rfl (World.ownsRow.alloc HK.out.1 _) ⟨wr.heap.size, 0, none⟩ 1 1 [.int .i64 9] rfl rfl (newsI _ (heap_alloc_new _ _)) (oneI _) (by unfold maxLen; omega) (by omega) HFX.out.size ?_; intro v9 w9 hown9 hg9 _)
        obtain ⟨p', c', e', hl', ho', hF'⟩ := snocI HL.out (World.ownsRow.alloc HK.out.1 _) HFX.out hown9 hg9
        subst e'
        rw [HU.out] at ho'
        have H9 := Lib.hid (⟨ho', hF'⟩ : _ ∧ _)
        clear hown9 hg9 hl' ho' hF'
        go_wp2_with fail
        go_roundw
        case rel => exact ⟨k + 1, p', c', by omega, by go_num, rfl, H9⟩
        case measure => simp [intOf]; omega
      · have HU := Lib.hid (HT.out 7 (by rw [hget]; first | rw [if_pos (by omega)] | rw [if_neg (by omega), if_pos (by omega)] | rw [if_neg (by omega), if_neg (by omega), if_pos (by omega)] | rw [if_neg (by omega), if_neg (by omega), if_neg (by omega)]))
        have HFX := Lib.hid (HK.out.2.alloc (.cells #[.int .i64 7] 3))
        clear hget HT
        go_wp2_with (at_builtin; refine wpList_append_own _ rfl (.tmp 21) (.tmp 23) 22 rfl w.heap.size 3 i0 (.int .i64 0) 1 8 Try.underlying22 HI.out.1 HI.out.2.1 HI.out.2.2.1 HI.out.2.2.2 rfl (by omega) _ k (is (fixI.take k)) rfl (World.ownsRow.alloc HK.out.1 _) ⟨wr.heap.size, 0, none⟩ 1 1 [.int .i64 7] rfl rfl (newsI _ (heap_alloc_new _ _)) (oneI _) (by unfold maxLen; omega) (by omega) HFX.out.size ?_; intro v9 w9 hown9 hg9 _)
        obtain ⟨p', c', e', hl', ho', hF'⟩ := snocI HL.out (World.ownsRow.alloc HK.out.1 _) HFX.out hown9 hg9
        subst e'
        rw [HU.out] at ho'
        have H9 := Lib.hid (⟨ho', hF'⟩ : _ ∧ _)
        clear hown9 hg9 hl' ho' hF'
        go_wp2_with fail
        go_roundw
        case rel => exact ⟨k + 1, p', c', by omega, by go_num, rfl, H9⟩
        case measure => simp [intOf]; omega
      · have HU := Lib.hid (HT.out 8 (by rw [hget]; first | rw [if_pos (by omega)] | rw [if_neg (by omega), if_pos (by omega)] | rw [if_neg (by omega), if_neg (by omega), if_pos (by omega)] | rw [if_neg (by omega), if_neg (by omega), if_neg (by omega)]))
        have HFX := Lib.hid (HK.out.2.alloc (.cells #[.int .i64 8] 3))
        clear hget HT
        go_wp2_with (at_builtin; refine wpList_append_own _ rfl (.tmp 21) (.tmp 23) 22 rfl w.heap.size 3 i0 (.int .i64 0) 1 8 Try.underlying22 HI.out.1 HI.out.2.1 HI.out.2.2.1 HI.out.2.2.2 rfl (by omega) _ k (is (fixI.take k)) rfl (World.ownsRow.alloc HK.out.1 _) ⟨wr.heap.size, 0, none⟩ 1 1 [.int .i64 8] rfl rfl (newsI _ (heap_alloc_new _ _)) (oneI _) (by unfold maxLen; omega) (by omega) HFX.out.size ?_; intro v9 w9 hown9 hg9 _)
        obtain ⟨p', c', e', hl', ho', hF'⟩ := snocI HL.out (World.ownsRow.alloc HK.out.1 _) HFX.out hown9 hg9
        subst e'
        rw [HU.out] at ho'
        have H9 := Lib.hid (⟨ho', hF'⟩ : _ ∧ _)
        clear hown9 hg9 hl' ho' hF'
        go_wp2_with fail
        go_roundw
        case rel => exact ⟨k + 1, p', c', by omega, by go_num, rfl, H9⟩
        case measure => simp [intOf]; omega
    · obtain rfl : k = 288 := by omega
      go_wp2_with fail
      go_ret
      obtain ⟨h1, h2⟩ := HK.out
      rw [List.take_of_length_le (by rw [fix_len]; exact Nat.le_refl _)] at h1
      exact ⟨p, c, by rw [fix_len]; rfl, (show World.ownsRow _ _ _ _ _ _ _ by rw [fix_len]; exact h1), h2⟩

/-! ### same -/
set_option maxRecDepth 100000 in
set_option maxHeartbeats 1000000 in
theorem rsame_core (w : World) (A1 A2 : Option Addr) (B1 B2 c1 c2 : Nat) (l1 l2 : List Int) (hr1 : RdI w B1 A1 l1) (hr2 : RdI w B2 A2 l2) (hl : l1.length = l2.length) (hb : l1.length ≤ 140737488351232) :
    Calls Try.prog 50 #[.slice A1 l1.length c1, .slice A2 l2.length c2] w fun e w' => e = .returned (.bool (decide (l1 = l2))) ∧ Calm w w' := by
  obtain ⟨n, hn⟩ : ∃ n, n = l1.length := ⟨_, rfl⟩
  rw [← hl, ← hn]
  have hb' : n ≤ 140737488351232 := by omega
  have HR1 := Lib.hid hr1
  have HR2 := Lib.hid hr2
  have HN := Lib.hid hn
  have HL := Lib.hid hl
  clear hr1 hr2 hn hl hb
  go_enter Try.func50, Try.ntmps50
  go_wp2_with fail
  go_loopw [5] (fun i wr => ∃ k : Nat, k ≤ n ∧ i = .int .i64 k ∧ Hid (l1.take k = l2.take k ∧ Calm w wr)) (fun i _ => n - (intOf i).toNat)
  case atStart => exact ⟨0, Nat.zero_le _, rfl, (show _ ∧ _ from ⟨rfl, Calm.refl _⟩)⟩
  case round =>
    obtain ⟨k, hk, rfl, HC⟩ := hrel
    by_cases hlt : k < n
    · have hk1 : k < l1.length := by have := HN.out; omega
      have hk2 : k < l2.length := by have := HN.out; have := HL.out; omega
      obtain ⟨b1, o1, rfl, _, d1, q1⟩ := (HR1.out.calm HC.out.2).at_ hk1
      obtain ⟨b2, o2, rfl, _, d2, q2⟩ := (HR2.out.calm HC.out.2).at_ hk2
      clear q1 q2
      by_cases he : l1[k] = l2[k]
      · have HE := Lib.hid (takeI_same_succ HC.out.1 hk1 hk2 he)
        rw [← he] at d2
        obtain ⟨x, hxx⟩ : ∃ x : Int, x = l1[k] := ⟨_, rfl⟩
        rw [← hxx] at d1 d2
        have h0 : (0 : Int) ≤ k := by omega
        have h1 : (k : Int) < n := by omega
        clear he hk1 hk2 hxx
        go_wp2_with fail
        go_quiet (fail)
        go_wp2
        go_roundw
        case rel => exact ⟨k + 1, by omega, by go_num, (show _ ∧ _ from ⟨HE.out, HC.out.2.trans ⟨nq, rfl⟩⟩)⟩
        case measure => simp [intOf]; omega
      · have hd : decide (l1 = l2) = false := decide_eq_false (fun e => he (by subst e; rfl))
        have HD := Lib.hid hd
        have hne : (l1[k] != l2[k]) = true := by
          rw [bne_iff_ne]
          exact he
        obtain ⟨x, hxx⟩ : ∃ x : Int, x = l1[k] := ⟨_, rfl⟩
        obtain ⟨y, hyy⟩ : ∃ y : Int, y = l2[k] := ⟨_, rfl⟩
        rw [← hxx] at d1 hne
        rw [← hyy] at d2 hne
        have h0 : (0 : Int) ≤ k := by omega
        have h1 : (k : Int) < n := by omega
        clear he hk1 hk2 hxx hyy hd
        go_wp2_with fail
        go_quiet (fail)
        go_wp2
        go_ret
        exact ⟨by rw [HD.out]; rfl, HC.out.2.trans ⟨nq, rfl⟩⟩
    · have hkn : k = n := by omega
      subst hkn
      have hd : decide (l1 = l2) = true := decide_eq_true (by
        have h := HC.out.1
        rw [List.take_of_length_le (by have := HN.out; omega), List.take_of_length_le (by have := HN.out; have := HL.out; omega)] at h
        exact h)
      have HD := Lib.hid hd
      clear hd
      go_wp2_with fail
      go_wp2
      go_ret
      exact ⟨by rw [HD.out]; rfl, HC.out.2⟩
set_option maxHeartbeats 400000 in
theorem rsame_len (w : World) (p1 p2 : Option Addr) (n1 n2 c1 c2 : Nat) (h : n1 ≠ n2) :
    Calls Try.prog 50 #[.slice p1 n1 c1, .slice p2 n2 c2] w fun e w' => e = .returned (.bool false) ∧ w = w' := by
  have hne : ((n1 : Int) != (n2 : Int)) = true := by rw [bne_iff_ne]; omega
  clear h
  go_enter Try.func50, Try.ntmps50
  go_wp2
  go_ret
  exact ⟨rfl, rfl⟩
theorem rsame_any (w : World) (A1 A2 : Option Addr) (B1 B2 c1 c2 : Nat) (l1 l2 : List Int) (hr1 : RdI w B1 A1 l1) (hr2 : RdI w B2 A2 l2) (hb : l1.length ≤ 140737488351232) :
    Calls Try.prog 50 #[.slice A1 l1.length c1, .slice A2 l2.length c2] w fun e w' => e = .returned (.bool (decide (l1 = l2))) ∧ Calm w w' := by
  by_cases h : l1.length = l2.length
  · exact rsame_core w A1 A2 B1 B2 c1 c2 l1 l2 hr1 hr2 h hb
  · refine (rsame_len w A1 A2 _ _ c1 c2 h).mono ?_
    rintro e w' ⟨rfl, rfl⟩
    exact ⟨by rw [decide_eq_false (fun e => h (by rw [e]))], Calm.refl _⟩
end Go.Proofs.Ytnibbopdjeagoaa.cd
