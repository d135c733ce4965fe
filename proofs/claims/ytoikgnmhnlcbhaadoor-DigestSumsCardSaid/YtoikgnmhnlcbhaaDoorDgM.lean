/-
  The digest (mathematics).
-/
import Derived.Test.YtoikgnmhnlcbhaaDoorBy
namespace Go.Proofs.YtoikgnmhnlcbhaaDoor.dg
set_option maxRecDepth 100000

abbrev Bts := List UInt8
abbrev W := BitVec 32
def ivL : List W := [0x6a09e667#32, 0xbb67ae85#32, 0x3c6ef372#32, 0xa54ff53a#32, 0x510e527f#32, 0x9b05688c#32, 0x1f83d9ab#32, 0x5be0cd19#32]
def rowsL : List Nat := [0, 1, 2, 3, 4, 5, 6, 7, 8, 9, 10, 11, 12, 13, 14, 15, 14, 10, 4, 8, 9, 15, 13, 6, 1, 12, 0, 2, 11, 7, 5, 3, 11, 8, 12, 0, 5, 2, 15, 13, 10, 14, 3, 6, 7, 1, 9, 4, 7, 9, 3, 1, 13, 12, 11, 14, 2, 6, 5, 10, 4, 0, 15, 8, 9, 0, 5, 7, 2, 4, 10, 15, 14, 1, 11, 12, 6, 8, 3, 13, 2, 12, 6, 10, 0, 11, 8, 3, 4, 13, 7, 5, 15, 14, 1, 9, 12, 5, 1, 15, 14, 13, 4, 10, 0, 7, 6, 3, 9, 2, 8, 11, 13, 11, 7, 14, 12, 1, 3, 9, 5, 0, 15, 4, 8, 6, 2, 10, 6, 15, 14, 9, 11, 3, 0, 8, 12, 2, 13, 7, 1, 4, 10, 5, 10, 2, 8, 4, 7, 6, 1, 5, 15, 11, 9, 14, 3, 12, 13, 0]
def rwN (r i : Nat) : Nat := rowsL.getD (16 * r + i) 0
/-- Turned right. -/
def rt (x : W) (n : Nat) : W := (x >>> n) ||| (x <<< (32 - n))
def at_ (v : List W) (i : Nat) : W := v.getD i 0#32
/-- One mixing, step by step. -/
def mx1 (v : List W) (a b : Nat) (x : W) : List W := v.set a (at_ v a + at_ v b + x)
def mx2 (v : List W) (d a n : Nat) : List W := v.set d (rt (at_ v d ^^^ at_ v a) n)
def mx3 (v : List W) (c d : Nat) : List W := v.set c (at_ v c + at_ v d)
def mixV (v : List W) (a b c d : Nat) (x y : W) : List W :=
  mx2 (mx3 (mx2 (mx1 (mx2 (mx3 (mx2 (mx1 v a b x) d a 16) c d) b c 12) a b y) d a 8) c d) b c 7
def colV (m : List W) (r : Nat) (v : List W) (i : Nat) : List W := mixV v i (4 + i) (8 + i) (12 + i) (at_ m (rwN r (2 * i))) (at_ m (rwN r (2 * i + 1)))
def diaV (m : List W) (r : Nat) (v : List W) (i : Nat) : List W := mixV v i (4 + (i + 1) % 4) (8 + (i + 2) % 4) (12 + (i + 3) % 4) (at_ m (rwN r (8 + 2 * i))) (at_ m (rwN r (9 + 2 * i)))
def colsV (m : List W) (r : Nat) (v : List W) (k : Nat) : List W := (List.range k).foldl (colV m r) v
def diasV (m : List W) (r : Nat) (v : List W) (k : Nat) : List W := (List.range k).foldl (diaV m r) v
def roundV (m : List W) (v : List W) (r : Nat) : List W := diasV m r (colsV m r v 4) 4
def roundsV (m : List W) (v : List W) (k : Nat) : List W := (List.range k).foldl (roundV m) v
def begV (h : List W) (t : Nat) (last : Bool) : List W :=
  let v := h ++ ivL
  let v := v.set 12 (at_ v 12 ^^^ BitVec.ofNat 32 t)
  let v := v.set 13 (at_ v 13 ^^^ BitVec.ofNat 32 (t / 4294967296))
  if last then v.set 14 (~~~ at_ v 14) else v
def endV (h v : List W) (k : Nat) : List W := (List.range k).map fun i => at_ h i ^^^ at_ v i ^^^ at_ v (i + 8)
def blockV (h m : List W) (t : Nat) (last : Bool) : List W := endV h (roundsV m (begV h t last) 10) 8
def wordN (b : Bts) (i : Nat) : Nat := (b.getD (4 * i) 0).toNat + (b.getD (4 * i + 1) 0).toNat * 256 + (b.getD (4 * i + 2) 0).toNat * 65536 + (b.getD (4 * i + 3) 0).toNat * 16777216
def wordsV (b : Bts) (k : Nat) : List W := (List.range k).map fun i => BitVec.ofNat 32 (wordN b i)
def headV (k : Nat) : List W := ivL.set 0 (at_ ivL 0 ^^^ 0x01010020#32 ^^^ BitVec.ofNat 32 (256 * k))
/-- The message. -/
def msgV (key b : Bts) : Bts := (if key = [] then [] else key ++ List.replicate (64 - key.length) 0) ++ b
/-- How many bytes a message of n has, filled up. -/
def fullN (n : Nat) : Nat := if n = 0 then 64 else (n + 63) / 64 * 64
def padV (b : Bts) : Bts := b ++ List.replicate (fullN b.length - b.length) 0
def cutV (P : Bts) (i : Nat) : Bts := (P.drop (64 * i)).take 64
/-- h behind i blocks of P (nb in all), of a message of so many bytes. -/
def hashV (h0 : List W) (P : Bts) (size nb : Nat) : Nat → List W
  | 0 => h0
  | i + 1 => blockV (hashV h0 P size nb i) (wordsV (cutV P i) 16) (if i + 1 = nb then size else 64 * i + 64) (decide (i + 1 = nb))
def outB (h : List W) (i : Nat) : UInt8 := UInt8.ofNat ((at_ h (i / 4)).toNat / 2 ^ (8 * (i % 4)) % 256)
def outV (h : List W) (k : Nat) : Bts := (List.range k).map (outB h)
def digV (key b : Bts) : Bts := outV (hashV (headV key.length) (padV (msgV key b)) (msgV key b).length (fullN (msgV key b).length / 64) (fullN (msgV key b).length / 64)) 32
def keyedV (key b : Bts) : Bts × Int := if 32 < key.length then (List.replicate 32 0, 2) else (digV key b, 0)
def hexD (n : Nat) : UInt8 := if n < 10 then UInt8.ofNat (48 + n) else UInt8.ofNat (87 + n)
def hexV : Bts → Bts
  | [] => []
  | x :: l => hexD (x.toNat / 16) :: hexD (x.toNat % 16) :: hexV l
def unhex (x : UInt8) : Nat := if 48 ≤ x.toNat ∧ x.toNat ≤ 57 then x.toNat - 48 else if 97 ≤ x.toNat ∧ x.toNat ≤ 102 then x.toNat - 87 else 16
def unpair : Bts → Bts
  | x :: y :: l => UInt8.ofNat (unhex x * 16 + unhex y) :: unpair l
  | _ => []
def isHex (s : Bts) : Prop := s.length = 64 ∧ ∀ x ∈ s, unhex x ≤ 15
instance (s : Bts) : Decidable (isHex s) := inferInstanceAs (Decidable (_ ∧ _))
def parseV (s : Bts) : Bts × Int := if isHex s then (unpair s, 0) else (List.replicate 32 0, 160)
def ofV (b : Bts) : Bts := hexV (digV [] b)
theorem works_text : ofV [] = [54, 57, 50, 49, 55, 97, 51, 48, 55, 57, 57, 48, 56, 48, 57, 52, 101, 49, 49, 49, 50, 49, 100, 48, 52, 50, 51, 53, 52, 97, 55, 99, 49, 102, 53, 53, 98, 54, 52, 56, 50, 99, 97, 49, 97, 53, 49, 101, 49, 98, 50, 53, 48, 100, 102, 100, 49, 101, 100, 48, 101, 101, 102, 57] := by decide +kernel
theorem works_abc : ofV [97, 98, 99] = [53, 48, 56, 99, 53, 101, 56, 99, 51, 50, 55, 99, 49, 52, 101, 50, 101, 49, 97, 55, 50, 98, 97, 51, 52, 101, 101, 98, 52, 53, 50, 102, 51, 55, 52, 53, 56, 98, 50, 48, 57, 101, 100, 54, 51, 97, 50, 57, 52, 100, 57, 57, 57, 98, 52, 99, 56, 54, 54, 55, 53, 57, 56, 50] := by decide +kernel

/-! ### texts lead back -/
theorem unhex_hex (n : Nat) (h : n < 16) : unhex (hexD n) = n := by
  have : ∀ k : Fin 16, unhex (hexD k.val) = k.val := by decide +kernel
  exact this ⟨n, h⟩
theorem hexV_length : ∀ l : Bts, (hexV l).length = 2 * l.length
  | [] => rfl
  | x :: l => by simp only [hexV, List.length_cons, hexV_length l]; omega
theorem hexV_hex : ∀ l : Bts, ∀ x ∈ hexV l, unhex x ≤ 15
  | [], x, h => by cases h
  | y :: l, x, h => by
    have hy := y.toNat_lt
    simp only [hexV, List.mem_cons] at h
    rcases h with rfl | rfl | h
    · rw [unhex_hex _ (by omega)]; omega
    · rw [unhex_hex _ (by omega)]; omega
    · exact hexV_hex l x h
theorem unpair_hex : ∀ l : Bts, unpair (hexV l) = l
  | [] => rfl
  | y :: l => by
    have hy := y.toNat_lt
    simp only [hexV, unpair, unpair_hex l]
    rw [unhex_hex _ (by omega), unhex_hex _ (by omega), show y.toNat / 16 * 16 + y.toNat % 16 = y.toNat by omega, UInt8.ofNat_toNat]
theorem parse_hex {d : Bts} (h : d.length = 32) : parseV (hexV d) = (d, 0) := by
  unfold parseV
  rw [if_pos ⟨by rw [hexV_length, h], hexV_hex d⟩, unpair_hex]
theorem hex_unhex (x : UInt8) (h : unhex x ≤ 15) : hexD (unhex x) = x := by
  have : ∀ n : Fin 256, unhex (UInt8.ofNat n.val) ≤ 15 → hexD (unhex (UInt8.ofNat n.val)) = UInt8.ofNat n.val := by decide +kernel
  have h2 := this ⟨x.toNat, x.toNat_lt⟩
  rw [show UInt8.ofNat x.toNat = x from UInt8.ofNat_toNat] at h2
  exact h2 h
theorem hex_unpair : ∀ (k : Nat) (s : Bts), s.length = 2 * k → (∀ x ∈ s, unhex x ≤ 15) → hexV (unpair s) = s ∧ (unpair s).length = k
  | 0, s, h, _ => by
    have : s = [] := List.eq_nil_of_length_eq_zero (by omega)
    rw [this]
    exact ⟨rfl, rfl⟩
  | k + 1, [], h, _ => by simp at h
  | k + 1, [x], h, _ => by simp at h; omega
  | k + 1, x :: y :: s, h, hx => by
    have h1 := hx x (by simp)
    have h2 := hx y (by simp)
    obtain ⟨i1, i2⟩ := hex_unpair k s (by simp at h; omega) (fun z hz => hx z (by simp [hz]))
    have h3 : (UInt8.ofNat (unhex x * 16 + unhex y)).toNat = unhex x * 16 + unhex y := by rw [UInt8.toNat_ofNat']; omega
    constructor
    · simp only [unpair, hexV]
      rw [h3, i1, show (unhex x * 16 + unhex y) / 16 = unhex x by omega, show (unhex x * 16 + unhex y) % 16 = unhex y by omega, hex_unhex x h1, hex_unhex y h2]
    · simp only [unpair, List.length_cons, i2]
theorem parse_ok {s d : Bts} (h : parseV s = (d, 0)) : hexV d = s ∧ d.length = 32 := by
  unfold parseV at h
  by_cases hx : isHex s
  · rw [if_pos hx] at h
    have := hex_unpair 32 s hx.1 hx.2
    rw [(Prod.mk.inj h).1] at this
    exact this
  · rw [if_neg hx] at h
    cases (Prod.mk.inj h).2
theorem parse_cases (s : Bts) : (parseV s).2 = 0 ∨ parseV s = (List.replicate 32 0, 160) := by
  unfold parseV
  by_cases hx : isHex s
  · rw [if_pos hx]; exact Or.inl rfl
  · rw [if_neg hx]; exact Or.inr rfl
theorem outV_length (h : List W) (k : Nat) : (outV h k).length = k := by unfold outV; rw [List.length_map, List.length_range]
theorem digV_length (key b : Bts) : (digV key b).length = 32 := outV_length _ _
theorem parse_length (s : Bts) : (parseV s).1.length = 32 := by
  rcases parse_cases s with h | h
  · exact (parse_ok (d := (parseV s).1) (Prod.ext rfl h)).2
  · rw [h]; exact List.length_replicate
theorem keyed_length (key b : Bts) : (keyedV key b).1.length = 32 := by
  unfold keyedV
  split
  · exact List.length_replicate
  · exact digV_length _ _
end Go.Proofs.YtoikgnmhnlcbhaaDoor.dg
