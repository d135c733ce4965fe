/-
  Bits of bytes, bytes of bits (mathematics).
-/
import Derived.Test.YtnibbopdjeagoaaByI
namespace Go.Proofs.Ytnibbopdjeagoaa.fl
set_option maxRecDepth 100000

/-- The lowest k bits of a number, lowest first. -/
def lowI (n : Int) : Nat → List Int
  | 0 => []
  | k + 1 => n % 2 :: lowI (n / 2) k
/-- A number's worth, lowest bit first. -/
def numI : List Int → Int
  | [] => 0
  | x :: r => x + 2 * numI r
def AllBit (l : List Int) : Prop := ∀ x ∈ l, x = 0 ∨ x = 1
theorem lowI_length : ∀ (k : Nat) (n : Int), (lowI n k).length = k
  | 0, _ => rfl
  | k + 1, n => by rw [lowI, List.length_cons, lowI_length k]
theorem ediv_pow_succ (n : Int) (k : Nat) : n / 2 / 2 ^ k = n / 2 ^ (k + 1) := by
  rw [Int.ediv_ediv_of_nonneg (by omega), Int.pow_succ, Int.mul_comm]
theorem lowI_snoc : ∀ (k : Nat) (n : Int), lowI n (k + 1) = lowI n k ++ [n / 2 ^ k % 2]
  | 0, n => by simp [lowI]
  | k + 1, n => by
    rw [lowI, lowI_snoc k, lowI, List.cons_append, ediv_pow_succ]
theorem low_bits : ∀ (k : Nat) (n : Int), AllBit (lowI n k)
  | 0, _ => fun x hx => by simp [lowI] at hx
  | k + 1, n => fun x hx => by
    rw [lowI] at hx
    rcases List.mem_cons.1 hx with rfl | hx
    · omega
    · exact low_bits k _ x hx
theorem AllBit.append {a b : List Int} (h : AllBit a) (k : AllBit b) : AllBit (a ++ b) := fun x hx => by
  rcases List.mem_append.1 hx with hx | hx
  · exact h x hx
  · exact k x hx
theorem AllBit.sub {a b : List Int} (h : AllBit a) (hs : b.Sublist a) : AllBit b := fun x hx => h x (hs.subset hx)
theorem zeros_bits (n : Nat) : AllBit (List.replicate n 0) := fun _ hx => Or.inl (List.eq_of_mem_replicate hx)
theorem numI_append : ∀ (a b : List Int), numI (a ++ b) = numI a + 2 ^ a.length * numI b
  | [], b => by simp [numI]
  | x :: r, b => by
    rw [List.cons_append, numI, numI, numI_append r b, List.length_cons, Int.pow_succ, Int.mul_add, ← Int.mul_assoc, Int.mul_comm 2 (2 ^ r.length)]
    omega
theorem numI_zeros : ∀ n, numI (List.replicate n 0) = 0
  | 0 => rfl
  | n + 1 => by rw [List.replicate_succ, numI, numI_zeros n]; rfl
theorem numI_low : ∀ (k : Nat) (n : Int), numI (lowI n k) = n % 2 ^ k
  | 0, n => by simp [lowI, numI, Int.emod_one]
  | k + 1, n => by
    rw [lowI, numI, numI_low k]
    have h1 := Int.emod_add_mul_ediv n 2
    have h2 := Int.emod_add_mul_ediv (n / 2) (2 ^ k)
    have h3 := Int.emod_add_mul_ediv n (2 ^ (k + 1))
    rw [ediv_pow_succ] at h2
    have hp : (2 : Int) ^ (k + 1) = 2 * 2 ^ k := by rw [Int.pow_succ, Int.mul_comm]
    rw [hp] at h3 h2 ⊢
    rw [Int.mul_assoc] at h3
    generalize n / (2 * 2 ^ k) = q at h2 h3
    generalize (2 : Int) ^ k * q = z at h2 h3
    omega
theorem numI_in : ∀ (l : List Int), AllBit l → 0 ≤ numI l ∧ numI l < 2 ^ l.length
  | [], _ => by simp [numI]
  | x :: r, h => by
    have ih := numI_in r (fun y hy => h y (by simp [hy]))
    have hx := h x (by simp)
    rw [numI, List.length_cons, Int.pow_succ]
    omega
theorem low_num : ∀ (l : List Int), AllBit l → lowI (numI l) l.length = l
  | [], _ => rfl
  | x :: r, h => by
    have hx := h x (by simp)
    rw [List.length_cons, lowI, numI]
    have e1 : (x + 2 * numI r) % 2 = x := by omega
    have e2 : (x + 2 * numI r) / 2 = numI r := by omega
    rw [e1, e2, low_num r (fun y hy => h y (by simp [hy]))]

/-- The bits of bytes. -/
def bitsOf (b : List UInt8) : List Int := b.flatMap fun x => lowI (x.toNat : Int) 8
theorem bitsOf_cons (x : UInt8) (b : List UInt8) : bitsOf (x :: b) = lowI (x.toNat : Int) 8 ++ bitsOf b := by unfold bitsOf; rw [List.flatMap_cons]
theorem bitsOf_append (a b : List UInt8) : bitsOf (a ++ b) = bitsOf a ++ bitsOf b := by unfold bitsOf; rw [List.flatMap_append]
theorem bitsOf_length : ∀ b : List UInt8, (bitsOf b).length = 8 * b.length
  | [] => rfl
  | x :: b => by rw [bitsOf_cons, List.length_append, lowI_length, bitsOf_length b, List.length_cons]; omega
theorem bitsOf_bits : ∀ b : List UInt8, AllBit (bitsOf b)
  | [] => fun x hx => by cases hx
  | x :: b => by rw [bitsOf_cons]; exact (low_bits 8 _).append (bitsOf_bits b)
theorem bitsOf_take (b : List UInt8) (k : Nat) (hk : k ≤ b.length) : (bitsOf b).take (8 * k) = bitsOf (b.take k) := by
  have h : bitsOf b = bitsOf (b.take k) ++ bitsOf (b.drop k) := by rw [← bitsOf_append, List.take_append_drop]
  have hl : (bitsOf (b.take k)).length = 8 * k := by rw [bitsOf_length, List.length_take]; omega
  rw [h, ← hl, List.take_left]
theorem bitsOf_drop (b : List UInt8) (k : Nat) (hk : k ≤ b.length) : (bitsOf b).drop (8 * k) = bitsOf (b.drop k) := by
  have h : bitsOf b = bitsOf (b.take k) ++ bitsOf (b.drop k) := by rw [← bitsOf_append, List.take_append_drop]
  have hl : (bitsOf (b.take k)).length = 8 * k := by rw [bitsOf_length, List.length_take]; omega
  rw [h, ← hl, List.drop_left]
theorem bitsOf_snoc {b : List UInt8} {k : Nat} {x : UInt8} (h : b[k]? = some x) : bitsOf (b.take (k + 1)) = bitsOf (b.take k) ++ lowI (x.toNat : Int) 8 := by
  rw [List.take_add_one, h, bitsOf_append]
  simp [bitsOf]

/-- The first k bytes of bits. -/
def packTo (l : List Int) (k : Nat) : List UInt8 := (List.range k).map fun i => UInt8.ofNat (numI ((l.drop (8 * i)).take 8)).toNat
def packI (l : List Int) : List UInt8 := packTo l ((l.length + 7) / 8)
theorem packTo_length (l : List Int) (k : Nat) : (packTo l k).length = k := by unfold packTo; simp
theorem packTo_succ (l : List Int) (k : Nat) : packTo l (k + 1) = packTo l k ++ [UInt8.ofNat (numI ((l.drop (8 * k)).take 8)).toNat] := by
  unfold packTo
  rw [List.range_succ, List.map_append]
  rfl
theorem packI_length (l : List Int) : (packI l).length = (l.length + 7) / 8 := packTo_length _ _
theorem byte_in {l : List Int} (h : AllBit l) (hl : l.length ≤ 8) : 0 ≤ numI l ∧ numI l < 256 := by
  have := numI_in l h
  have hp : (2 : Int) ^ l.length ≤ 2 ^ 8 := by exact_mod_cast Nat.pow_le_pow_right (n := 2) (by omega) hl
  omega
theorem byte_at {l : List Int} (h : AllBit l) (i : Nat) : ((UInt8.ofNat (numI ((l.drop (8 * i)).take 8)).toNat).toNat : Int) = numI ((l.drop (8 * i)).take 8) := by
  have hb := byte_in (l := (l.drop (8 * i)).take 8) (h.sub ((List.take_sublist _ _).trans (List.drop_sublist _ _))) (by rw [List.length_take]; omega)
  rw [UInt8.toNat_ofNat']
  omega
/-- The bits of a byte of bits: those, filled up with noughts. -/
theorem low_pad {l : List Int} (h : AllBit l) (hl : l.length ≤ 8) : lowI (numI l) 8 = l ++ List.replicate (8 - l.length) 0 := by
  have hz : AllBit (l ++ List.replicate (8 - l.length) 0) := h.append (zeros_bits _)
  have h1 := low_num _ hz
  rw [numI_append, numI_zeros, Int.mul_zero, Int.add_zero, List.length_append, List.length_replicate, show l.length + (8 - l.length) = 8 by omega] at h1
  exact h1
theorem bits_packTo {l : List Int} (h : AllBit l) : ∀ k, 8 * k ≤ l.length → bitsOf (packTo l k) = l.take (8 * k)
  | 0, _ => rfl
  | k + 1, hk => by
    rw [packTo_succ, bitsOf_append, bits_packTo h k (by omega)]
    have hb := byte_at h k
    have e : bitsOf [UInt8.ofNat (numI ((l.drop (8 * k)).take 8)).toNat] = (l.drop (8 * k)).take 8 := by
      rw [bitsOf_cons, hb]
      have hl8 : ((l.drop (8 * k)).take 8).length = 8 := by rw [List.length_take, List.length_drop]; omega
      have h2 := low_num _ (h.sub ((List.take_sublist 8 _).trans (List.drop_sublist (8 * k) l)))
      rw [hl8] at h2
      rw [h2]
      simp [bitsOf]
    rw [e, show 8 * (k + 1) = 8 * k + 8 by omega, List.take_add]
theorem bits_pack {l : List Int} (h : AllBit l) : bitsOf (packI l) = l ++ List.replicate (8 * ((l.length + 7) / 8) - l.length) 0 := by
  have hd : 8 * (l.length / 8) ≤ l.length := by omega
  rcases Nat.eq_zero_or_pos (l.length % 8) with h0 | h0
  · have e : (l.length + 7) / 8 = l.length / 8 := by omega
    unfold packI
    rw [e, bits_packTo h _ hd, show 8 * (l.length / 8) = l.length by omega, List.take_length]
    simp
  · have e : (l.length + 7) / 8 = l.length / 8 + 1 := by omega
    unfold packI
    rw [e, packTo_succ, bitsOf_append, bits_packTo h _ hd, bitsOf_cons, byte_at h]
    have hl8 : ((l.drop (8 * (l.length / 8))).take 8).length = l.length % 8 := by rw [List.length_take, List.length_drop]; omega
    rw [low_pad (h.sub ((List.take_sublist 8 _).trans (List.drop_sublist _ l))) (by omega), hl8]
    have ht : (l.drop (8 * (l.length / 8))).take 8 = l.drop (8 * (l.length / 8)) := List.take_of_length_le (by rw [List.length_drop]; omega)
    rw [ht]
    have hb : bitsOf [] = [] := rfl
    rw [hb, List.append_nil, ← List.append_assoc, List.take_append_drop]
    congr 2
    omega
theorem num_byte (x : UInt8) : numI (lowI (x.toNat : Int) 8) = x.toNat := by
  rw [numI_low]
  have := x.toNat_lt
  omega
theorem pack_bits_to (b : List UInt8) : ∀ k, k ≤ b.length → packTo (bitsOf b) k = b.take k
  | 0, _ => rfl
  | k + 1, hk => by
    have hx := List.getElem?_eq_getElem (l := b) (i := k) (by omega)
    have e : b.take (k + 1) = b.take k ++ [b[k]'(by omega)] := by rw [List.take_add_one, hx]; rfl
    rw [e, packTo_succ, pack_bits_to b k (by omega), bitsOf_drop b k (by omega), List.drop_eq_getElem_cons (by omega), bitsOf_cons]
    congr 1
    have ht : (lowI ((b[k]'(by omega)).toNat : Int) 8 ++ bitsOf (b.drop (k + 1))).take 8 = lowI ((b[k]'(by omega)).toNat : Int) 8 := List.take_left' (lowI_length _ _)
    rw [ht, num_byte, Int.toNat_natCast, UInt8.ofNat_toNat]
theorem pack_bits (b : List UInt8) : packI (bitsOf b) = b := by
  unfold packI
  rw [bitsOf_length, show (8 * b.length + 7) / 8 = b.length by omega, pack_bits_to b _ (Nat.le_refl _), List.take_length]
/-- Bits of bytes within bytes. -/
theorem pack_part (b : List UInt8) (k n : Nat) (h : k + n ≤ b.length) : packI (((bitsOf b).drop (8 * k)).take (8 * n)) = (b.drop k).take n := by
  rw [bitsOf_drop b k (by omega), bitsOf_take _ n (by rw [List.length_drop]; omega), pack_bits]
end Go.Proofs.Ytnibbopdjeagoaa.fl
