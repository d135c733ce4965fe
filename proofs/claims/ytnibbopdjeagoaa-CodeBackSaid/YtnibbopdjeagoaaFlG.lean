/-
  Bits of bytes one by one; bytes of bits as they grow (mathematics; for whatever program).
-/
import Derived.Test.YtnibbopdjeagoaaFlQ
import Derived.Test.YtnibbopdjeagoaaFlX
namespace Go.Proofs.Ytnibbopdjeagoaa.fl
set_option maxRecDepth 100000
/-- A bit of a byte of bytes. -/
theorem bits_get {b : List UInt8} {j i : Nat} {x : UInt8} (h : b[j]? = some x) (hi : i < 8) : (bitsOf b)[8 * j + i]? = some ((x.toNat : Int) / 2 ^ i % 2) := by
  have hj := (List.getElem?_eq_some_iff.1 h).1
  have hx := (List.getElem?_eq_some_iff.1 h).2
  rw [← List.getElem?_drop, bitsOf_drop b j (by omega), List.drop_eq_getElem_cons hj, bitsOf_cons, hx, List.getElem?_append_left (by rw [lowI_length]; exact hi)]
  exact lowI_get 8 _ i hi
/-- .. by its place. -/
theorem bits_get' {b : List UInt8} {p : Nat} {x : UInt8} (h : b[p / 8]? = some x) : (bitsOf b)[p]? = some ((x.toNat : Int) / 2 ^ (p % 8) % 2) := by
  have := bits_get h (Nat.mod_lt p (by omega : 0 < 8))
  rwa [Nat.div_add_mod] at this
theorem pack_full {L d : List Int} (h : L.length % 8 = 0) : packI (L ++ d) = packI L ++ packI d := by
  obtain ⟨k, hk⟩ : ∃ k, L.length = 8 * k := ⟨L.length / 8, by omega⟩
  have e1 : packI L = packTo L k := by unfold packI; rw [show (L.length + 7) / 8 = k by omega]
  unfold packI at e1 ⊢
  rw [e1, List.length_append, show (L.length + d.length + 7) / 8 = k + (d.length + 7) / 8 by omega]
  unfold packTo
  rw [List.range_add, List.map_append, List.map_map]
  congr 1
  · refine List.map_congr_left fun i hi => ?_
    have hi := List.mem_range.1 hi
    rw [List.drop_append_of_le_length (by omega), List.take_append_of_le_length (by rw [List.length_drop]; omega)]
  · refine List.map_congr_left fun i _ => ?_
    show UInt8.ofNat (numI (((L ++ d).drop (8 * (k + i))).take 8)).toNat = _
    rw [show 8 * (k + i) = L.length + 8 * i by omega, ← List.drop_drop, List.drop_left]
/-- Whole bytes behind whole bytes. -/
theorem pack_bytes {L : List Int} (d : List UInt8) (h : L.length % 8 = 0) : packI (L ++ bitsOf d) = packI L ++ d := by rw [pack_full h, pack_bits]
/-- The bytes of bits: the whole ones, and what is left. -/
theorem pack_split (L : List Int) : ∃ M T, L = M ++ T ∧ M.length % 8 = 0 ∧ T.length = L.length % 8 ∧ packI L = packI M ++ packI T := by
  refine ⟨L.take (8 * (L.length / 8)), L.drop (8 * (L.length / 8)), (List.take_append_drop _ _).symm, by rw [List.length_take]; omega, by rw [List.length_drop]; omega, ?_⟩
  rw [← pack_full (by rw [List.length_take]; omega), List.take_append_drop]
theorem pack_one {T : List Int} (h0 : 0 < T.length) (h8 : T.length ≤ 8) : packI T = [UInt8.ofNat (numI T).toNat] := by
  unfold packI
  rw [show (T.length + 7) / 8 = 1 by omega]
  show [UInt8.ofNat (numI ((T.drop (8 * 0)).take 8)).toNat] = _
  rw [List.drop_zero, List.take_of_length_le h8]
/-- A bit in a new byte. -/
theorem pack_snoc0 {L : List Int} {x : Int} (h : L.length % 8 = 0) : packI (L ++ [x]) = packI L ++ [UInt8.ofNat x.toNat] := by
  rw [pack_full h, pack_one (T := [x]) (by simp) (by simp)]
  simp [numI]
/-- A bit in the last byte. -/
theorem pack_snoc {L : List Int} {x : Int} (h : L.length % 8 ≠ 0) : ∃ l z, packI L = l ++ [UInt8.ofNat (numI z).toNat] ∧ l.length = L.length / 8 ∧ z.length = L.length % 8 ∧ z.Sublist L ∧ packI (L ++ [x]) = l ++ [UInt8.ofNat (numI z + x * 2 ^ (L.length % 8)).toNat] := by
  obtain ⟨M, T, e, hM, hT, hp⟩ := pack_split L
  have hl : M.length + T.length = L.length := by rw [e, List.length_append]
  refine ⟨packI M, T, by rw [hp, pack_one (T := T) (by omega) (by omega)], by rw [packI_length]; omega, hT, by rw [e]; exact List.sublist_append_right _ _, ?_⟩
  conv => lhs; rw [e, List.append_assoc, pack_full hM, pack_one (T := T ++ [x]) (by simp) (by rw [List.length_append, List.length_singleton]; omega), numI_append]
  rw [hT, show numI [x] = x by simp [numI], Int.mul_comm]
/-- Noughts up to a whole byte change no byte. -/
theorem pack_pad (L : List Int) : packI (padL L) = packI L := by
  unfold padL
  by_cases h : L.length % 8 = 0
  · rw [h]; simp
  · obtain ⟨M, T, e, hM, hT, hp⟩ := pack_split L
    have hl : M.length + T.length = L.length := by rw [e, List.length_append]
    rw [hp]
    conv => lhs; rw [e, List.append_assoc, pack_full hM]
    rw [pack_one (T := T) (by omega) (by omega), pack_one (T := T ++ _) (by rw [List.length_append]; omega) (by rw [List.length_append, List.length_replicate, List.length_append]; omega), numI_append, numI_zeros, Int.mul_zero, Int.add_zero]
theorem padL_len (L : List Int) : (padL L).length = (L.length + 7) / 8 * 8 := by unfold padL; rw [List.length_append, List.length_replicate]; omega
end Go.Proofs.Ytnibbopdjeagoaa.fl
