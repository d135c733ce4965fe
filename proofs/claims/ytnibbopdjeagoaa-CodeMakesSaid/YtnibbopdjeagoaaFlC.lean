/-
  The document's Low and High.
-/
import Derived.Test.YtnibbopdjeagoaaFlB
namespace Go.Proofs.Ytnibbopdjeagoaa.fl
set_option maxRecDepth 100000
open Go.RowKit Go.Maps
set_option maxRecDepth 100000

/-- May a number of so many bits be? -/
def mayB (n k : Int) : Bool := decide (0 ≤ k) && decide (k ≤ 24) && decide (0 ≤ n)
/-- Its bits, lowest first; none, if it may not. -/
def lowL (n k : Int) : List Int := if mayB n k = true then lowI n k.toNat else []
/-- Does it go into so many? -/
def lowB (n k : Int) : Bool := mayB n k && decide (n / 2 ^ k.toNat = 0)
theorem mayB_iff (n k : Int) : mayB n k = true ↔ 0 ≤ k ∧ k ≤ 24 ∧ 0 ≤ n := by
  unfold mayB
  simp [and_assoc]
theorem lowL_len (n k : Int) : (lowL n k).length ≤ 24 := by
  unfold lowL
  by_cases h : mayB n k = true
  · rw [if_pos h, lowI_length]
    have := (mayB_iff n k).1 h
    omega
  · rw [if_neg h]
    simp
theorem lowL_bits (n k : Int) : AllBit (lowL n k) := by
  unfold lowL
  by_cases h : mayB n k = true
  · rw [if_pos h]
    exact low_bits _ _
  · rw [if_neg h]
    exact fun x hx => by cases hx
theorem bit_i64 {l : List Int} (h : AllBit l) : ∀ x ∈ l, -9223372036854775808 ≤ x ∧ x ≤ 9223372036854775807 := fun x hx => by
  have := h x hx
  omega
/-- New numbers, and a truth value. -/
def NewT (w : World) (l : List Int) (b : Bool) (e : Ending) (w' : World) : Prop := ∃ A cap, e = .returned (.tuple #[.slice A l.length cap, .bool b]) ∧ OwnI w' w.heap.size (.slice A l.length cap) l ∧ Fr (fun _ => False) w w'

set_option maxHeartbeats 4000000 in
theorem rlow (w : World) (n k : Int) (hn : n ≤ 9223372036854775807) :
    Calls Try.prog 59 #[.int .i64 n, .int .i64 k] w (NewT w (lowL n k) (lowB n k)) := by
  by_cases h1 : k < 0
  · have HB := Lib.hid (show mayB n k = false by unfold mayB; rw [decide_eq_false (by omega)]; rfl)
    have HL := Lib.hid (⟨by unfold lowL; rw [HB.out]; rfl, by unfold lowB; rw [HB.out]; rfl⟩ : lowL n k = [] ∧ lowB n k = false)
    clear hn
    go_enter Try.func59, Try.ntmps59
    go_wp2_with fail
    go_ret2
    rw [HL.out.1, HL.out.2]
    exact ⟨none, 0, rfl, ⟨rfl, Or.inl ⟨rfl, rfl⟩⟩, Fr.refl _ _⟩
  by_cases h2 : 24 < k
  · have HB := Lib.hid (show mayB n k = false by unfold mayB; rw [decide_eq_false (p := k ≤ 24) (by omega), Bool.and_false]; rfl)
    have HL := Lib.hid (⟨by unfold lowL; rw [HB.out]; rfl, by unfold lowB; rw [HB.out]; rfl⟩ : lowL n k = [] ∧ lowB n k = false)
    clear hn
    go_enter Try.func59, Try.ntmps59
    go_wp2_with fail
    go_ret2
    rw [HL.out.1, HL.out.2]
    exact ⟨none, 0, rfl, ⟨rfl, Or.inl ⟨rfl, rfl⟩⟩, Fr.refl _ _⟩
  by_cases h3 : n < 0
  · have HB := Lib.hid (show mayB n k = false by unfold mayB; rw [decide_eq_false (p := 0 ≤ n) (by omega), Bool.and_false])
    have HL := Lib.hid (⟨by unfold lowL; rw [HB.out]; rfl, by unfold lowB; rw [HB.out]; rfl⟩ : lowL n k = [] ∧ lowB n k = false)
    clear hn
    go_enter Try.func59, Try.ntmps59
    go_wp2_with fail
    go_ret2
    rw [HL.out.1, HL.out.2]
    exact ⟨none, 0, rfl, ⟨rfl, Or.inl ⟨rfl, rfl⟩⟩, Fr.refl _ _⟩
  obtain ⟨K, rfl⟩ : ∃ K : Nat, k = K := ⟨k.toNat, by omega⟩
  obtain ⟨N, rfl⟩ : ∃ N : Nat, n = N := ⟨n.toNat, by omega⟩
  have HB := Lib.hid ((mayB_iff (N : Int) (K : Int)).2 ⟨by omega, by omega, by omega⟩)
  have HL := Lib.hid (⟨by unfold lowL; rw [if_pos HB.out]; rfl, by unfold lowB; rw [HB.out]; rfl⟩ : lowL (N : Int) (K : Int) = lowI (N : Int) K ∧ lowB (N : Int) (K : Int) = decide ((N : Int) / 2 ^ K = 0))
  obtain ⟨lv, hlv⟩ : ∃ lv, lv = lowL (N : Int) (K : Int) := ⟨_, rfl⟩
  obtain ⟨lb, hlb⟩ : ∃ lb, lb = lowB (N : Int) (K : Int) := ⟨_, rfl⟩
  rw [← hlv, ← hlb] at HL
  rw [← hlv, ← hlb]
  have hK : K ≤ 24 := by omega
  obtain ⟨i0, hi, hz0, hz1, hz2⟩ := info_parts infoI
  have HI := Lib.hid (⟨hi, hz0, hz1, hz2⟩ : _ ∧ _ ∧ _ ∧ _)
  have H0 := Lib.hid (⟨ownI_nil w, (Fr.refl (fun _ => False) w).alloc (.cells #[] 3)⟩ : _ ∧ _)
  clear hi hz0 hz1 hz2 hlv hlb h1 h2 h3 HB
  go_enter Try.func59, Try.ntmps59
  go_wp2_with fail
  go_loopw [0, 6, 7] (fun v0 v6 v7 wr => ∃ (j z : Nat) (p : Option Addr) (c : Nat) (L : List Int), j ≤ K ∧ (z : Int) ≤ 9223372036854775807 ∧ v7 = .int .i64 j ∧ v0 = .int .i64 z ∧ v6 = .slice p j c ∧ Hid (j = L.length ∧ L = lowI (N : Int) j ∧ (z : Int) = (N : Int) / 2 ^ j ∧ wr.ownsRow w.heap.size 3 1 (.slice p j c) j (is L) ∧ Fr (fun _ => False) w wr)) (fun _ _ v _ => K - (intOf v).toNat)
  case atStart => exact ⟨0, N, _, _, [], Nat.zero_le _, hn, rfl, rfl, rfl, (show _ ∧ _ from ⟨rfl, rfl, by simp, H0.out⟩)⟩
  case round =>
    obtain ⟨j, z, p, c, L, hj, hz, rfl, rfl, rfl, HK⟩ := hrel
    clear H0 hn
    by_cases hlt : j < K
    · have hmod : ((z : Int)).tmod 2 = ((z % 2 : Nat) : Int) := rfl
      have hdiv : ((z : Int)).tdiv 2 = ((z / 2 : Nat) : Int) := rfl
      obtain ⟨u, hu⟩ : ∃ u, u = ((z % 2 : Nat) : Int) := ⟨_, rfl⟩
      rw [← hu] at hmod
      have HU := Lib.hid hu
      have HFX := Lib.hid (HK.out.2.2.2.2.alloc (.cells #[.int .i64 u] 3))
      have hjj : j ≤ 24 := by omega
      clear hu
      go_wp2_with (at_builtin; refine wpList_append_own _ rfl (.tmp 24) (.tmp 27) 22 rfl w.heap.size 3 i0 (.int .i64 0) 1 8 Try.underlying22 HI.out.1 HI.out.2.1 HI.out.2.2.1 HI.out.2.2.2 rfl (by omega) _ j (is L) rfl (World.ownsRow.alloc HK.out.2.2.2.1 _) ⟨wr.heap.size, 0, none⟩ 1 1 [.int .i64 u] rfl rfl (newsI _ (heap_alloc_new _ _)) (oneI _) (by unfold maxLen; omega) (by omega) HFX.out.size ?_; intro v9 w9 hown9 hg9 _)
      obtain ⟨p', c', e', hl', ho', hF'⟩ := snocI HK.out.1 (World.ownsRow.alloc HK.out.2.2.2.1 _) HFX.out hown9 hg9
      subst e'
      have H9 := Lib.hid (⟨hl', (by rw [HK.out.2.1, lowI_snoc, ← HK.out.2.2.1, HU.out]; rfl), (by
        have h1 := HK.out.2.2.1
        rw [Int.pow_succ, ← Int.ediv_ediv_of_nonneg (Int.pow_nonneg (by omega)), ← h1]
        rfl), ho', hF'⟩ : j + 1 = (L ++ [u]).length ∧ L ++ [u] = lowI (N : Int) (j + 1) ∧ ((z / 2 : Nat) : Int) = (N : Int) / 2 ^ (j + 1) ∧ w9.ownsRow w.heap.size 3 1 (.slice p' (j + 1) c') (j + 1) (is (L ++ [u])) ∧ Fr (fun _ => False) w w9)
      clear hown9 hg9 hl' ho' hF'
      go_wp2_with fail
      go_roundw
      case rel => exact ⟨j + 1, z / 2, p', c', _, by omega, by omega, by go_num, by first | rfl | go_num, rfl, (show _ ∧ _ from H9.out)⟩
      case measure => simp [intOf]; omega
    · obtain rfl : j = K := by omega
      have hzb : ((z : Int) == 0) = lb := by rw [HL.out.2, ← HK.out.2.2.1]; rfl
      go_wp2_with fail
      go_ret2
      obtain ⟨h1, h2, h3, h4, h5⟩ := HK.out
      have e : lv = L := by rw [HL.out.1, h2]
      subst e
      exact ⟨p, c, by rw [← h1]; rfl, (by unfold OwnI; rw [← h1]; exact h4), h5⟩

theorem ownI_low {w : World} {B B' : Nat} {v : Value} {l : List Int} (h : OwnI w B v l) (hB : B' ≤ B) : OwnI w B' v l := by
  obtain ⟨h1, h2⟩ := h
  refine ⟨h1, ?_⟩
  rcases h2 with h2 | ⟨g, cap, cur, hv, hg, r⟩
  · exact Or.inl h2
  · exact Or.inr ⟨g, cap, cur, hv, Nat.le_trans hB hg, r⟩
theorem rev_snoc {l : List Int} {t : Nat} {x : Int} (h : l[t]? = some x) : (l.drop t).reverse = (l.drop (t + 1)).reverse ++ [x] := by
  obtain ⟨h1, h2⟩ := List.getElem?_eq_some_iff.1 h
  rw [List.drop_eq_getElem_cons h1, h2, List.reverse_cons]
set_option maxHeartbeats 4000000 in
theorem rhigh (w : World) (n k : Int) (hn : n ≤ 9223372036854775807) :
    Calls Try.prog 43 #[.int .i64 n, .int .i64 k] w (NewT w (lowL n k).reverse (lowB n k)) := by
  have HLO := Lib.hid (rlow w n k hn)
  obtain ⟨l, hl⟩ : ∃ l, l = lowL n k := ⟨_, rfl⟩
  obtain ⟨lb, hlb⟩ : ∃ lb, lb = lowB n k := ⟨_, rfl⟩
  have HL := Lib.hid (⟨by rw [hl]; exact lowL_len n k, by rw [hl]; exact lowL_bits n k⟩ : l.length ≤ 24 ∧ AllBit l)
  rw [← hl, ← hlb] at HLO
  rw [← hl, ← hlb]
  obtain ⟨i0, hi, hz0, hz1, hz2⟩ := info_parts infoI
  have HI := Lib.hid (⟨hi, hz0, hz1, hz2⟩ : _ ∧ _ ∧ _ ∧ _)
  clear hi hz0 hz1 hz2 hl hlb hn
  go_enter Try.func43, Try.ntmps43
  go_wp2_with fail
  refine HLO.out.mono ?_
  rintro e w1 ⟨A, cap, rfl, ho, hF⟩
  have HR := Lib.hid (⟨OwnI.rd ho (bit_i64 HL.out.2), hF⟩ : RdI w1 w1.heap.size A l ∧ Fr (fun _ => False) w w1)
  obtain ⟨q, hq⟩ : ∃ q, q = l.length := ⟨_, rfl⟩
  have HQ := Lib.hid hq
  have hq24 : q ≤ 24 := by rw [hq]; exact HL.out.1
  rw [← hq]
  have H0 : Hid ((w1.alloc (.cells #[] 3)).ownsRow w1.heap.size 3 1 (.slice (some ⟨w1.heap.size, 0, none⟩) 0 0) 0 (is []) ∧ Fr (fun _ => False) w1 (w1.alloc (.cells #[] 3))) := Lib.hid ⟨World.ownsRow_made w1 #[] 0 (Nat.le_refl _) (Nat.zero_le _) (by simp), (Fr.refl _ w1).alloc _⟩
  clear ho hF HLO hq
  go_wp2_with fail
  go_loopw [8, 9] (fun v8 v9 wr => ∃ (t : Int) (j : Nat) (p : Option Addr) (c : Nat), -1 ≤ t ∧ (j : Int) + t + 1 = q ∧ v9 = .int .i64 t ∧ v8 = .slice p j c ∧ Hid (j = ((l.drop (t + 1).toNat).reverse).length ∧ wr.ownsRow w1.heap.size 3 1 (.slice p j c) j (is (l.drop (t + 1).toNat).reverse) ∧ Fr (fun _ => False) w1 wr)) (fun _ v _ => (intOf v + 1).toNat)
  case atStart =>
    have hd : (l.drop ((q : Int) - 1 + 1).toNat) = [] := by rw [show ((q : Int) - 1 + 1).toNat = l.length by have := HQ.out; omega, List.drop_length]
    exact ⟨(q : Int) - 1, 0, _, _, by omega, by omega, by go_num, rfl, (show _ ∧ _ from by rw [hd]; exact ⟨rfl, H0.out⟩)⟩
  case round =>
    obtain ⟨t, j, p, c, h1, h2, rfl, rfl, HK⟩ := hrel
    clear H0
    by_cases hlt : 0 ≤ t
    · obtain ⟨k, rfl⟩ : ∃ k : Nat, t = k := ⟨t.toNat, by omega⟩
      have hkl : k < l.length := by have := HQ.out; omega
      obtain ⟨blk, off, rfl, -, hc, -, -⟩ := (HR.out.1.still HK.out.2.2 (Nat.le_refl _)).at_ hkl
      have HS := Lib.hid (rev_snoc (List.getElem?_eq_getElem hkl))
      obtain ⟨x, hx⟩ : ∃ x, x = l[k] := ⟨_, rfl⟩
      rw [← hx] at hc HS
      have hK := HK.out
      rw [show ((k : Int) + 1).toNat = k + 1 by omega] at hK
      have HK2 := Lib.hid hK
      have HFX := Lib.hid (hK.2.2.alloc (.cells #[.int .i64 x] 3))
      have hj : j ≤ 24 := by omega
      clear hkl hx hK
      go_wp2_with (at_builtin; refine wpList_append_own _ rfl (.tmp 24) (.tmp 29) 22 rfl w1.heap.size 3 i0 (.int .i64 0) 1 8 Try.underlying22 HI.out.1 HI.out.2.1 HI.out.2.2.1 HI.out.2.2.2 rfl (by omega) _ j (is (l.drop (k + 1)).reverse) rfl (World.ownsRow.alloc HK2.out.2.1 _) ⟨wr.heap.size, 0, none⟩ 1 1 [.int .i64 x] rfl rfl (newsI _ (heap_alloc_new _ _)) (oneI _) (by unfold maxLen; omega) (by omega) HFX.out.size ?_; intro v9 w9 hown9 hg9 _)
      obtain ⟨p', c', e', hl', ho', hF'⟩ := snocI HK2.out.1 (World.ownsRow.alloc HK2.out.2.1 _) HFX.out hown9 hg9
      subst e'
      rw [← HS.out] at hl' ho'
      have H9 := Lib.hid (⟨hl', ho', hF'⟩ : _ ∧ _ ∧ _)
      clear hown9 hg9 hl' ho' hF'
      go_wp2_with fail
      go_roundw
      case rel => exact ⟨(k : Int) - 1, j + 1, p', c', by omega, by omega, by go_num, rfl, (show _ ∧ _ from by rw [show ((k : Int) - 1 + 1).toNat = k by omega]; exact H9.out)⟩
      case measure => simp [intOf]
    · have HE := HK.out
      rw [show (t + 1).toNat = 0 by omega, List.drop_zero] at HE
      have HE2 := Lib.hid HE
      have hjq : j = q := by omega
      go_wp2_with fail
      go_ret2
      obtain ⟨h3, h4, h5⟩ := HE2.out
      have hl4 : OwnI wr w.heap.size (.slice p l.reverse.length c) l.reverse := by
        rw [h3] at h4
        exact ownI_low h4 HR.out.2.size
      exact ⟨p, c, by rw [List.length_reverse]; rfl, hl4, HR.out.2.trans h5 (fun _ _ e => e)⟩
end Go.Proofs.Ytnibbopdjeagoaa.fl
