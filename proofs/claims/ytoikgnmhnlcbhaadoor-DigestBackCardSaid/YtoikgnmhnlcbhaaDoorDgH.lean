/-
  The document's Parse, Of.
-/
import Derived.Test.YtoikgnmhnlcbhaaDoorDgG
namespace Go.Proofs.YtoikgnmhnlcbhaaDoor.dg
set_option maxRecDepth 100000
open Go.RowKit Go.Maps
set_option maxRecDepth 100000

/-! ### what is read of a text, step by step -/
def chN (s : Bts) (k : Nat) : Nat := unhex (s.getD k 0)
def stepP (s d : Bts) (k : Nat) : Bts := d.set (k / 2) (UInt8.ofNat ((d.getD (k / 2) 0).toNat * 16 + chN s k))
def partP (s : Bts) : Nat → Bts
  | 0 => no32
  | k + 1 => stepP s (partP s k) k
theorem partP_length (s : Bts) : ∀ k, (partP s k).length = 32
  | 0 => rfl
  | k + 1 => by simp only [partP, stepP, List.length_set, partP_length s k]
theorem unpair_snoc : ∀ (l : Bts) (x y : UInt8), l.length % 2 = 0 → unpair (l ++ [x, y]) = unpair l ++ [UInt8.ofNat (unhex x * 16 + unhex y)]
  | [], x, y, _ => rfl
  | [z], x, y, h => by simp at h
  | a :: c :: l, x, y, h => by
    simp only [List.cons_append, unpair]
    rw [unpair_snoc l x y (by simp only [List.length_cons] at h; omega)]
theorem unpair_length : ∀ (l : Bts), (unpair l).length = l.length / 2
  | [] => rfl
  | [_] => by simp [unpair]
  | a :: c :: l => by
    simp only [unpair, List.length_cons, unpair_length l]
    omega
theorem chN_le (s : Bts) (k : Nat) : chN s k ≤ 16 := unhex_le _
theorem set_mid (L : Bts) (r : Nat) (x y : UInt8) : (L ++ x :: List.replicate r 0).set L.length y = L ++ y :: List.replicate r 0 := by
  rw [List.set_append_right _ _ (Nat.le_refl _), Nat.sub_self, List.set_cons_zero]
theorem get_mid (L : Bts) (r : Nat) (x : UInt8) : (L ++ x :: List.replicate r 0).getD L.length 0 = x := by
  rw [List.getD_eq_getElem?_getD, List.getElem?_append_right (Nat.le_refl _), Nat.sub_self]
  rfl
theorem rep_cons (j : Nat) (hj : j < 32) : List.replicate (32 - j) (0 : UInt8) = 0 :: List.replicate (32 - (j + 1)) 0 := by
  rw [show 32 - j = (32 - (j + 1)) + 1 by omega, List.replicate_succ]
/-- Behind an odd number of digits: pairs, and a digit besides. -/
theorem partP_odd {s : Bts} (hl : s.length = 64) {j : Nat} (hj : j < 32) (he : partP s (2 * j) = unpair (s.take (2 * j)) ++ List.replicate (32 - j) 0) :
    (unpair (s.take (2 * j))).length = j ∧ partP s (2 * j + 1) = unpair (s.take (2 * j)) ++ UInt8.ofNat (chN s (2 * j)) :: List.replicate (32 - (j + 1)) 0 := by
  obtain ⟨L, hL⟩ : ∃ L, L = unpair (s.take (2 * j)) := ⟨_, rfl⟩
  have hLl : L.length = j := by rw [hL, unpair_length, List.length_take]; omega
  have e1 : 2 * j / 2 = j := by omega
  refine ⟨by rw [← hL]; exact hLl, ?_⟩
  show stepP s (partP s (2 * j)) (2 * j) = _
  unfold stepP
  rw [he, ← hL, rep_cons j hj, e1, ← hLl, get_mid, set_mid, hLl]
  simp
/-- Behind an even number of digits: pairs. -/
theorem partP_even (s : Bts) (hl : s.length = 64) : ∀ j, j ≤ 32 → (∀ k, k < 2 * j → chN s k ≤ 15) → partP s (2 * j) = unpair (s.take (2 * j)) ++ List.replicate (32 - j) 0
  | 0, _, _ => rfl
  | j + 1, hj, hx => by
    have ih := partP_even s hl j (by omega) (fun k hk => hx k (by omega))
    obtain ⟨hLl, h1⟩ := partP_odd hl (by omega) ih
    obtain ⟨L, hL⟩ : ∃ L, L = unpair (s.take (2 * j)) := ⟨_, rfl⟩
    rw [← hL] at hLl h1
    have e2 : (2 * j + 1) / 2 = j := by omega
    have hc := hx (2 * j) (by omega)
    have h2 : partP s (2 * (j + 1)) = L ++ UInt8.ofNat (chN s (2 * j) * 16 + chN s (2 * j + 1)) :: List.replicate (32 - (j + 1)) 0 := by
      show stepP s (partP s (2 * j + 1)) (2 * j + 1) = _
      unfold stepP
      rw [h1, e2, ← hLl, get_mid, set_mid, hLl, UInt8.toNat_ofNat', Nat.mod_eq_of_lt (by omega)]
    have h3 : s.take (2 * (j + 1)) = s.take (2 * j) ++ [s.getD (2 * j) 0, s.getD (2 * j + 1) 0] := by
      rw [show 2 * (j + 1) = 2 * j + 1 + 1 by omega, List.take_succ_eq_append_getElem (by omega), List.take_succ_eq_append_getElem (by omega), List.getD_eq_getElem?_getD, List.getD_eq_getElem?_getD, List.getElem?_eq_getElem (by omega), List.getElem?_eq_getElem (by omega), List.append_assoc]
      rfl
    rw [h2, h3, unpair_snoc _ _ _ (by rw [List.length_take]; omega), ← hL, List.append_assoc]
    rfl
theorem partP_all (s : Bts) (hl : s.length = 64) (hx : ∀ k, k < 64 → chN s k ≤ 15) : partP s 64 = unpair s := by
  have := partP_even s hl 32 (Nat.le_refl _) hx
  rw [show 2 * 32 = 64 from rfl, List.take_of_length_le (Nat.le_of_eq hl)] at this
  rw [this]
  simp
/-- What is multiplied is small. -/
theorem partP_low (s : Bts) (hl : s.length = 64) (k : Nat) (hk : k < 64) (hx : ∀ i, i < k → chN s i ≤ 15) : ((partP s k).getD (k / 2) 0).toNat ≤ 15 := by
  rcases (show k = 2 * (k / 2) ∨ k = 2 * (k / 2) + 1 by omega) with h | h
  · obtain ⟨j, hj⟩ : ∃ j, j = k / 2 := ⟨_, rfl⟩
    rw [← hj] at h ⊢
    rw [h, partP_even s hl j (by omega) (fun i hi => hx i (by omega)), rep_cons j (by omega)]
    have hLl : (unpair (s.take (2 * j))).length = j := by rw [unpair_length, List.length_take]; omega
    generalize unpair (s.take (2 * j)) = L at hLl
    rw [← hLl, get_mid]
    decide
  · obtain ⟨j, hj⟩ : ∃ j, j = k / 2 := ⟨_, rfl⟩
    rw [← hj] at h ⊢
    obtain ⟨hLl, h1⟩ := partP_odd hl (by omega) (partP_even s hl j (by omega) (fun i hi => hx i (by omega)))
    have hc := hx (2 * j) (by omega)
    rw [h, h1]
    generalize unpair (s.take (2 * j)) = L at hLl
    rw [← hLl, get_mid, hLl, UInt8.toNat_ofNat', Nat.mod_eq_of_lt (by omega)]
    exact hc
theorem chN_at (s : Bts) (k : Nat) (h : k < s.length) : unhex s[k] = chN s k := by
  unfold chN
  rw [List.getD_eq_getElem?_getD, List.getElem?_eq_getElem h]
  rfl
theorem hex_all (s : Bts) (hl : s.length = 64) : isHex s ↔ ∀ k, k < 64 → chN s k ≤ 15 := by
  constructor
  · intro h k hk
    rw [← chN_at s k (by omega)]
    exact h.2 _ (List.getElem_mem _)
  · intro h
    refine ⟨hl, fun x hx => ?_⟩
    obtain ⟨k, hk, rfl⟩ := List.getElem_of_mem hx
    rw [chN_at s k hk]
    exact h k (by omega)
end Go.Proofs.YtoikgnmhnlcbhaaDoor.dg
