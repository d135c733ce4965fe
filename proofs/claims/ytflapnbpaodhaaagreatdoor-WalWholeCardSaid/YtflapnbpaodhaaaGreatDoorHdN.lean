/-
  What a header tells: its turn, how many, each home (mathematics).
-/
import Derived.Test.YtflapnbpaodhaaaGreatDoorHdO
namespace Go.Proofs.YtflapnbpaodhaaaGreatDoor.hd
set_option maxRecDepth 100000
open Go.RowKit Go.Maps

theorem numAt_ne (l : List UInt8) (a n k a' k' : Nat) (h : a' + k' ≤ a ∨ a + k ≤ a') : numAt (putL l a n k) a' k' = numAt l a' k' := by
  unfold numAt
  rcases h with h | h
  · rw [List.take_drop, List.take_drop]
    have e : ∀ L : List UInt8, L.take (a' + k') = (L.take a).take (a' + k') := fun L => by rw [List.take_take, Nat.min_eq_left h]
    rw [e (putL l a n k), e l, putL_take]
  · rw [putL_drop l a n k a' h]
theorem hdr1_num (h : List UInt8) (l : List (Int × List UInt8)) (a k : Nat) (ha : a + k ≤ 10) : ∀ n, numAt (hdr1 h l n) a k = numAt h a k
  | 0 => rfl
  | n + 1 => by rw [hdr1, numAt_ne _ _ _ _ _ _ (by omega), hdr1_num h l a k ha n]
theorem hdr1_home (h : List UInt8) (l : List (Int × List UInt8)) (i : Nat) (hl : h.length = 256) (hh : (l.getD i (0, [])).1.toNat < 65536) : ∀ n, i < n → n ≤ 120 → numAt (hdr1 h l n) (10 + i * 2) 2 = (l.getD i (0, [])).1.toNat
  | 0, hi, _ => by omega
  | n + 1, hi, hn => by
    rw [hdr1]
    by_cases e : i = n
    · subst e
      rw [putL_num _ _ _ _ (by rw [hdr1_length, hl]; omega)]
      exact Nat.mod_eq_of_lt (by omega)
    · rw [numAt_ne _ _ _ _ _ _ (by omega), hdr1_home h l i hl hh n (by omega) (by omega)]
section
variable {turn : Nat} {l : List (Int × List UInt8)}
theorem hdrL_turn (ht : turn < 4294967296) : numAt (hdrL turn l) 4 4 = turn := by
  rw [hdrL, numAt_ne _ _ _ _ _ _ (by omega), hdrH, hdr1_num _ _ _ _ (by omega), hdr0, numAt_ne _ _ _ _ _ _ (by omega), putL_num _ _ _ _ (by rw [markL_length]; omega)]
  exact Nat.mod_eq_of_lt (by omega)
theorem hdrL_count (hn : l.length ≤ 100) : numAt (hdrL turn l) 8 2 = l.length := by
  rw [hdrL, numAt_ne _ _ _ _ _ _ (by omega), hdrH, hdr1_num _ _ _ _ (by omega), hdr0, putL_num _ _ _ _ (by rw [putL_length, markL_length]; omega)]
  exact Nat.mod_eq_of_lt (by omega)
theorem hdrL_home (hn : l.length ≤ 100) {i : Nat} {x : Int × List UInt8} (hi : l[i]? = some x) (h0 : 0 ≤ x.1) (h1 : x.1 < 65536) : (numAt (hdrL turn l) (10 + i * 2) 2 : Int) = x.1 := by
  have hil := (List.getElem?_eq_some_iff.1 hi).1
  have hg : l.getD i (0, []) = x := by rw [List.getD_eq_getElem?_getD, hi]; rfl
  rw [hdrL, numAt_ne _ _ _ _ _ _ (by omega), hdrH, hdr1_home _ _ i (hdr0_length _ _) (by rw [hg]; omega) _ hil (by omega), hg]
  omega
end
end Go.Proofs.YtflapnbpaodhaaaGreatDoor.hd
