/-
  The program's digest (mathematics): a mixing whose words are set at its end; the rows as numbers; blocks that are short; block by block.
-/
import Derived.Test.YtoikgnmhnlcbhaaDoorDgI
namespace Go.Proofs.YtoikgnmhnlcbhaaDoor.dg
set_option maxRecDepth 100000

theorem at_set (v : List W) (i j : Nat) (x : W) (hi : i < v.length) : at_ (v.set i x) j = if i = j then x else at_ v j := by
  unfold at_
  rw [List.getD_eq_getElem?_getD, List.getElem?_set, List.getD_eq_getElem?_getD]
  by_cases h : i = j
  · rw [if_pos h, if_pos hi, if_pos h]; rfl
  · rw [if_neg h, if_neg h]
theorem at_same (v : List W) (i : Nat) (x : W) (hi : i < v.length) : at_ (v.set i x) i = x := by rw [at_set v i i x hi, if_pos rfl]
theorem at_other (v : List W) (i j : Nat) (x : W) (hi : i < v.length) (h : i ≠ j) : at_ (v.set i x) j = at_ v j := by rw [at_set v i j x hi, if_neg h]
theorem ext_at {v u : List W} (hl : v.length = u.length) (h : ∀ k, k < v.length → at_ v k = at_ u k) : v = u := by
  apply List.ext_getElem hl
  intro k h1 h2
  have := h k h1
  unfold at_ at this
  rw [List.getD_eq_getElem?_getD, List.getD_eq_getElem?_getD, List.getElem?_eq_getElem h1, List.getElem?_eq_getElem h2] at this
  exact this
theorem mix_end {v : List W} (hv : v.length = 16) {a b c d : Nat} (ha : a < 16) (hb : b < 16) (hc : c < 16) (hd : d < 16) (n1 : a ≠ b) (n2 : a ≠ c) (n3 : a ≠ d) (n4 : b ≠ c) (n5 : b ≠ d) (n6 : c ≠ d) {x y a1 d1 c1 b1 a2 d2 c2 b2 : W}
    (h1 : a1 = at_ v a + (at_ v b + x)) (h2 : d1 = rt (at_ v d ^^^ a1) 16) (h3 : c1 = at_ v c + d1) (h4 : b1 = rt (at_ v b ^^^ c1) 12)
    (h5 : a2 = a1 + (b1 + y)) (h6 : d2 = rt (d1 ^^^ a2) 8) (h7 : c2 = c1 + d2) (h8 : b2 = rt (b1 ^^^ c2) 7) :
    (((v.set a a2).set b b2).set c c2).set d d2 = mixV v a b c d x y := by
  have e1 : at_ v a + at_ v b + x = a1 := by rw [h1, BitVec.add_assoc]
  have e5 : a1 + b1 + y = a2 := by rw [h5, BitVec.add_assoc]
  unfold mixV
  have k1 : mx1 v a b x = v.set a a1 := by unfold mx1; rw [e1]
  rw [k1]
  have k2 : mx2 (v.set a a1) d a 16 = (v.set a a1).set d d1 := by
    unfold mx2
    rw [at_other _ _ _ _ (by omega) n3, at_same _ _ _ (by omega), ← h2]
  rw [k2]
  have k3 : mx3 ((v.set a a1).set d d1) c d = ((v.set a a1).set d d1).set c c1 := by
    unfold mx3
    rw [at_other _ _ _ _ (by rw [List.length_set]; omega) (Ne.symm n6), at_other _ _ _ _ (by omega) n2, at_same _ _ _ (by rw [List.length_set]; omega), ← h3]
  rw [k3]
  have k4 : mx2 (((v.set a a1).set d d1).set c c1) b c 12 = (((v.set a a1).set d d1).set c c1).set b b1 := by
    unfold mx2
    rw [at_other _ _ _ _ (by simp only [List.length_set]; omega) (Ne.symm n4), at_other _ _ _ _ (by simp only [List.length_set]; omega) (Ne.symm n5), at_other _ _ _ _ (by omega) n1, at_same _ _ _ (by simp only [List.length_set]; omega), ← h4]
  rw [k4]
  obtain ⟨u, hu⟩ : ∃ u, u = (((v.set a a1).set d d1).set c c1).set b b1 := ⟨_, rfl⟩
  have hul : u.length = 16 := by rw [hu]; simp only [List.length_set]; exact hv
  have ua : at_ u a = a1 := by rw [hu, at_other _ _ _ _ (by simp only [List.length_set]; omega) (Ne.symm n1), at_other _ _ _ _ (by simp only [List.length_set]; omega) (Ne.symm n2), at_other _ _ _ _ (by simp only [List.length_set]; omega) (Ne.symm n3), at_same _ _ _ (by omega)]
  have ub : at_ u b = b1 := by rw [hu, at_same _ _ _ (by simp only [List.length_set]; omega)]
  have uc : at_ u c = c1 := by rw [hu, at_other _ _ _ _ (by simp only [List.length_set]; omega) n4, at_same _ _ _ (by simp only [List.length_set]; omega)]
  have ud : at_ u d = d1 := by rw [hu, at_other _ _ _ _ (by simp only [List.length_set]; omega) n5, at_other _ _ _ _ (by simp only [List.length_set]; omega) n6, at_same _ _ _ (by simp only [List.length_set]; omega)]
  have uo : ∀ k, k ≠ a → k ≠ b → k ≠ c → k ≠ d → at_ u k = at_ v k := fun k q1 q2 q3 q4 => by
    rw [hu, at_other _ _ _ _ (by simp only [List.length_set]; omega) (Ne.symm q2), at_other _ _ _ _ (by simp only [List.length_set]; omega) (Ne.symm q3), at_other _ _ _ _ (by simp only [List.length_set]; omega) (Ne.symm q4), at_other _ _ _ _ (by omega) (Ne.symm q1)]
  rw [← hu]
  clear k1 k2 k3 k4 hu
  have k5 : mx1 u a b y = u.set a a2 := by unfold mx1; rw [ua, ub, e5]
  rw [k5]
  have k6 : mx2 (u.set a a2) d a 8 = (u.set a a2).set d d2 := by
    unfold mx2
    rw [at_other _ _ _ _ (by omega) n3, at_same _ _ _ (by omega), ud, ← h6]
  rw [k6]
  have k7 : mx3 ((u.set a a2).set d d2) c d = ((u.set a a2).set d d2).set c c2 := by
    unfold mx3
    rw [at_other _ _ _ _ (by rw [List.length_set]; omega) (Ne.symm n6), at_other _ _ _ _ (by omega) n2, at_same _ _ _ (by rw [List.length_set]; omega), uc, ← h7]
  rw [k7]
  have k8 : mx2 (((u.set a a2).set d d2).set c c2) b c 7 = (((u.set a a2).set d d2).set c c2).set b b2 := by
    unfold mx2
    rw [at_other _ _ _ _ (by simp only [List.length_set]; omega) (Ne.symm n4), at_other _ _ _ _ (by simp only [List.length_set]; omega) (Ne.symm n5), at_other _ _ _ _ (by omega) n1, at_same _ _ _ (by simp only [List.length_set]; omega), ub, ← h8]
  rw [k8]
  apply ext_at (by simp only [List.length_set]; omega)
  intro k hk
  simp only [List.length_set] at hk
  rw [at_set _ _ _ _ (by simp only [List.length_set]; omega), at_set _ _ _ _ (by simp only [List.length_set]; omega), at_set _ _ _ _ (by simp only [List.length_set]; omega), at_set _ _ _ _ (by omega),
    at_set _ _ _ _ (by simp only [List.length_set]; omega), at_set _ _ _ _ (by simp only [List.length_set]; omega), at_set _ _ _ _ (by simp only [List.length_set]; omega), at_set _ _ _ _ (by omega)]
  by_cases qa : a = k
  · subst qa
    rw [if_neg (Ne.symm n3), if_neg (Ne.symm n2), if_neg (Ne.symm n1), if_pos rfl, if_neg (Ne.symm n1), if_neg (Ne.symm n2), if_neg (Ne.symm n3), if_pos rfl]
  · by_cases qb : b = k
    · subst qb
      rw [if_neg (Ne.symm n5), if_neg (Ne.symm n4), if_pos rfl, if_pos rfl]
    · by_cases qc : c = k
      · subst qc
        rw [if_neg (Ne.symm n6), if_pos rfl, if_neg qb, if_pos rfl]
      · by_cases qd : d = k
        · subst qd
          rw [if_pos rfl, if_neg qb, if_neg qc, if_pos rfl]
        · rw [if_neg qd, if_neg qc, if_neg qb, if_neg qa, if_neg qb, if_neg qc, if_neg qd, if_neg qa, uo k (Ne.symm qa) (Ne.symm qb) (Ne.symm qc) (Ne.symm qd)]

/-! ### rounds -/
def foN (i k : Nat) : Nat := if i < 4 then 4 * k + i else 4 * k + (i + k) % 4
def stV (m : List W) (r : Nat) (v : List W) (i : Nat) : List W := mixV v (foN i 0) (foN i 1) (foN i 2) (foN i 3) (at_ m (rwN r (2 * i))) (at_ m (rwN r (2 * i + 1)))
def stsV (m : List W) (r : Nat) (v : List W) (k : Nat) : List W := (List.range k).foldl (stV m r) v
theorem stsV_succ (m : List W) (r : Nat) (v : List W) (k : Nat) : stsV m r v (k + 1) = stV m r (stsV m r v k) k := by
  unfold stsV
  rw [List.range_succ, List.foldl_append]
  rfl
theorem col_st (m v : List W) (r i : Nat) (hi : i < 4) : colV m r v i = stV m r v i := by
  unfold colV stV foN
  rw [if_pos hi, if_pos hi, if_pos hi, if_pos hi, show 4 * 0 + i = i by omega, show 4 * 1 + i = 4 + i by omega, show 4 * 2 + i = 8 + i by omega, show 4 * 3 + i = 12 + i by omega]
theorem dia_st (m v : List W) (r i : Nat) (hi : i < 4) : diaV m r v i = stV m r v (4 + i) := by
  unfold diaV stV foN
  rw [if_neg (by omega), if_neg (by omega), if_neg (by omega), if_neg (by omega), show 4 * 0 + (4 + i + 0) % 4 = i by omega, show 4 * 1 + (4 + i + 1) % 4 = 4 + (i + 1) % 4 by omega, show 4 * 2 + (4 + i + 2) % 4 = 8 + (i + 2) % 4 by omega, show 4 * 3 + (4 + i + 3) % 4 = 12 + (i + 3) % 4 by omega,
    show 2 * (4 + i) = 8 + 2 * i by omega, show 8 + 2 * i + 1 = 9 + 2 * i by omega]
theorem round_sts (m v : List W) (r : Nat) : roundV m v r = stsV m r v 8 := by
  have e4 : List.range 4 = [0, 1, 2, 3] := by decide
  have e8 : List.range 8 = [0, 1, 2, 3, 4, 5, 6, 7] := by decide
  unfold roundV diasV colsV stsV
  rw [e4, e8]
  simp only [List.foldl_cons, List.foldl_nil]
  rw [col_st _ _ _ 0 (by decide), col_st _ _ _ 1 (by decide), col_st _ _ _ 2 (by decide), col_st _ _ _ 3 (by decide), dia_st _ _ _ 0 (by decide), dia_st _ _ _ 1 (by decide), dia_st _ _ _ 2 (by decide), dia_st _ _ _ 3 (by decide)]
theorem fo_lt (i k : Nat) (hi : i < 8) (hk : k < 4) : foN i k < 16 := by
  unfold foN
  split <;> omega
theorem fo_ne (i j k : Nat) (h : j < k) : foN i j ≠ foN i k := by
  unfold foN
  split <;> omega
theorem stsV_length (m : List W) (r : Nat) (v : List W) : ∀ k, (stsV m r v k).length = v.length
  | 0 => rfl
  | k + 1 => by rw [stsV_succ]; unfold stV; rw [mixV_length, stsV_length m r v k]
theorem roundsV_length (m v : List W) : ∀ k, (roundsV m v k).length = v.length
  | 0 => rfl
  | k + 1 => by rw [roundsV_succ, round_sts, stsV_length, roundsV_length m v k]
def rowU : List Nat := [81985529216486895, 16881918945140062035, 13312731748010193300, 8733003861693448440, 10400822202260547645, 3200383143768358425, 14204332651957162635, 15816291393287259690, 8064173457993569445, 11710614767857974480]
def rowN (r i : Nat) : Nat := rowU.getD r 0 * 2 ^ (8 * i) % 18446744073709551616
theorem row_hi (r i : Nat) (hr : r < 10) (hi : i < 8) : rowN r i / 1152921504606846976 = rwN r (2 * i) := by
  have : ∀ (r : Fin 10) (i : Fin 8), rowN r.val i.val / 1152921504606846976 = rwN r.val (2 * i.val) := by decide +kernel
  exact this ⟨r, hr⟩ ⟨i, hi⟩
theorem row_lo (r i : Nat) (hr : r < 10) (hi : i < 8) : rowN r i / 72057594037927936 % 16 = rwN r (2 * i + 1) := by
  have : ∀ (r : Fin 10) (i : Fin 8), rowN r.val i.val / 72057594037927936 % 16 = rwN r.val (2 * i.val + 1) := by decide +kernel
  exact this ⟨r, hr⟩ ⟨i, hi⟩
theorem row_next (r i : Nat) : rowN r i * 256 % 18446744073709551616 = rowN r (i + 1) := by
  unfold rowN
  rw [show 8 * (i + 1) = 8 * i + 8 by omega, Nat.pow_add, ← Nat.mul_assoc]
  generalize rowU.getD r 0 * 2 ^ (8 * i) = X
  omega
theorem row_lt (r i : Nat) : rowN r i < 18446744073709551616 := Nat.mod_lt _ (by decide)
theorem row_zero (r : Nat) (hr : r < 10) : rowN r 0 = rowU.getD r 0 := by
  have : ∀ r : Fin 10, rowN r.val 0 = rowU.getD r.val 0 := by decide +kernel
  exact this ⟨r, hr⟩
theorem rw_lt (r i : Nat) : rwN r i < 16 := rows_lt _

/-! ### a block's words -/
theorem getD_take (b : Bts) (n j : Nat) : (b.take n).getD j 0 = if j < n then b.getD j 0 else 0 := by
  rw [List.getD_eq_getElem?_getD, List.getElem?_take, List.getD_eq_getElem?_getD]
  split <;> rfl
theorem words_congr {b c : Bts} (h : ∀ j, j < 64 → b.getD j 0 = c.getD j 0) : wordsV b 16 = wordsV c 16 := by
  unfold wordsV
  apply List.map_congr_left
  intro i hi
  have hi := List.mem_range.1 hi
  unfold wordN
  rw [h _ (by omega), h _ (by omega), h _ (by omega), h _ (by omega)]
theorem at_words (b : Bts) (k j : Nat) (h : j < k) : at_ (wordsV b k) j = BitVec.ofNat 32 (wordN b j) := by
  unfold at_ wordsV
  rw [List.getD_eq_getElem?_getD, List.getElem?_map, List.getElem?_range h]
  rfl
theorem or_word (A x r : Nat) (hA : A < 256 ^ r) (hr : r < 4) (hx : x < 256) : BitVec.ofNat 32 A ||| (BitVec.ofNat 32 x <<< (8 * r)) = BitVec.ofNat 32 (A + x * 256 ^ r) := by
  have hp : (2 : Nat) ^ (8 * r) = 256 ^ r := by rw [Nat.pow_mul]
  have hA2 : A < 2 ^ (8 * r) := by rw [hp]; exact hA
  have h1 : 256 ^ r ≤ 16777216 := by rcases (show r = 0 ∨ r = 1 ∨ r = 2 ∨ r = 3 by omega) with rfl | rfl | rfl | rfl <;> decide
  have h2 : x * 256 ^ r + A < 4294967296 := by
    have : (x + 1) * 256 ^ r ≤ 256 * 256 ^ r := Nat.mul_le_mul_right _ (by omega)
    rw [Nat.add_mul, Nat.one_mul] at this
    omega
  apply BitVec.eq_of_toNat_eq
  rw [BitVec.toNat_or, BitVec.toNat_shiftLeft, BitVec.toNat_ofNat, BitVec.toNat_ofNat, BitVec.toNat_ofNat, Nat.mod_eq_of_lt (show A < 2 ^ 32 by omega), Nat.mod_eq_of_lt (show x < 2 ^ 32 by omega), Nat.mod_eq_of_lt (show A + x * 256 ^ r < 2 ^ 32 by omega),
    Nat.shiftLeft_eq, hp, Nat.mod_eq_of_lt (show x * 256 ^ r < 2 ^ 32 by omega), ← hp, ← Nat.shiftLeft_eq, Nat.or_comm, ← Nat.shiftLeft_add_eq_or_of_lt hA2, Nat.add_comm]
theorem words_step (b : Bts) (k : Nat) (h64 : k < 64) :
    wordsV (b.take (k + 1)) 16 = (wordsV (b.take k) 16).set (k / 4) (at_ (wordsV (b.take k) 16) (k / 4) ||| (BitVec.ofNat 32 (b.getD k 0).toNat <<< (8 * (k % 4)))) := by
  apply ext_at (by rw [List.length_set, wordsV_length, wordsV_length])
  intro j hj
  rw [wordsV_length] at hj
  rw [at_set _ _ _ _ (by rw [wordsV_length]; omega), at_words _ _ _ hj, at_words _ _ _ hj, at_words _ _ _ (by omega)]
  have hx := (b.getD k 0).toNat_lt
  by_cases h : k / 4 = j
  · rw [if_pos h]
    obtain ⟨r, hr⟩ : ∃ r, r = k % 4 := ⟨_, rfl⟩
    have hk : k = 4 * j + r := by omega
    have hr4 : r < 4 := by omega
    rw [h, ← hr]
    obtain ⟨A, hA⟩ : ∃ A, A = wordN (b.take k) j := ⟨_, rfl⟩
    have hAl : A < 256 ^ r ∧ wordN (b.take (k + 1)) j = A + (b.getD k 0).toNat * 256 ^ r := by
      have h0 := (b.getD (4 * j) 0).toNat_lt
      have h1 := (b.getD (4 * j + 1) 0).toNat_lt
      have h2 := (b.getD (4 * j + 2) 0).toNat_lt
      rw [hA]
      unfold wordN
      rw [getD_take, getD_take, getD_take, getD_take, getD_take, getD_take, getD_take, getD_take]
      have hz : (0 : UInt8).toNat = 0 := rfl
      rcases (show r = 0 ∨ r = 1 ∨ r = 2 ∨ r = 3 by omega) with rfl | rfl | rfl | rfl
      · rw [if_neg (by omega), if_neg (by omega), if_neg (by omega), if_neg (by omega), if_pos (by omega), if_neg (by omega), if_neg (by omega), if_neg (by omega), hz, hk]
        simp
      · rw [if_pos (by omega), if_neg (by omega), if_neg (by omega), if_neg (by omega), if_pos (by omega), if_pos (by omega), if_neg (by omega), if_neg (by omega), hz, hk]
        exact ⟨by omega, by omega⟩
      · rw [if_pos (by omega), if_pos (by omega), if_neg (by omega), if_neg (by omega), if_pos (by omega), if_pos (by omega), if_pos (by omega), if_neg (by omega), hz, hk]
        exact ⟨by omega, by omega⟩
      · rw [if_pos (by omega), if_pos (by omega), if_pos (by omega), if_neg (by omega), if_pos (by omega), if_pos (by omega), if_pos (by omega), if_pos (by omega), hz, hk]
        exact ⟨by omega, by omega⟩
    rw [← hA, hAl.2, or_word A _ r hAl.1 hr4 hx]
  · rw [if_neg h]
    congr 1
    have e : ∀ i, i < 4 → (b.take (k + 1)).getD (4 * j + i) 0 = (b.take k).getD (4 * j + i) 0 := fun i hi => by
      rw [getD_take, getD_take]
      by_cases q : 4 * j + i < k
      · rw [if_pos (by omega), if_pos q]
      · rw [if_neg q, if_neg (by omega)]
    unfold wordN
    have e0 : (b.take (k + 1)).getD (4 * j) 0 = (b.take k).getD (4 * j) 0 := e 0 (by decide)
    rw [e0, e 1 (by decide), e 2 (by decide), e 3 (by decide)]

/-! ### block by block -/
/-- Ahead of the block that is taken as the i-th one: what it is, what is behind it, what came of those ahead of it. -/
structure Ch (key b : Bts) (i : Nat) (block behind : Bts) (h : List W) (t : Nat) : Prop where
  blk : block = ((msgV key b).drop (64 * i)).take 64
  beh : behind = (msgV key b).drop (64 * (i + 1))
  hsh : h = hashV (headV key.length) (padV (msgV key b)) (msgV key b).length (fullN (msgV key b).length / 64) i
  tak : t = 64 * i
  lt : i < fullN (msgV key b).length / 64
theorem full_pos (n : Nat) : 0 < fullN n / 64 := by
  unfold fullN
  split <;> omega
theorem ch_nokey (b : Bts) : Ch [] b 0 (b.take 64) (b.drop 64) (headV 0) 0 := ⟨rfl, rfl, rfl, rfl, full_pos _⟩
theorem ch_key {key : Bts} (b : Bts) (h0 : key ≠ []) (h : key.length ≤ 64) : Ch key b 0 (key ++ List.replicate (64 - key.length) 0) b (headV key.length) 0 := by
  have hm : msgV key b = (key ++ List.replicate (64 - key.length) 0) ++ b := by unfold msgV; rw [if_neg h0]
  have hl : (key ++ List.replicate (64 - key.length) (0 : UInt8)).length = 64 := by rw [List.length_append, List.length_replicate]; omega
  refine ⟨?_, ?_, rfl, rfl, full_pos _⟩
  · rw [hm, Nat.mul_zero, List.drop_zero, List.take_append_of_le_length (by omega), List.take_of_length_le (by omega)]
  · rw [hm, List.drop_append_of_le_length (by omega), List.drop_of_length_le (by omega), List.nil_append]
theorem cut_words (m : Bts) (i : Nat) : wordsV (cutV (padV m) i) 16 = wordsV ((m.drop (64 * i)).take 64) 16 := by
  apply words_congr
  intro j hj
  unfold cutV padV
  rw [getD_take, getD_take, if_pos hj, if_pos hj, List.getD_eq_getElem?_getD, List.getD_eq_getElem?_getD, List.getElem?_drop, List.getElem?_drop]
  by_cases h : 64 * i + j < m.length
  · rw [List.getElem?_append_left h]
  · rw [List.getElem?_append_right (by omega), show m[64 * i + j]? = none from List.getElem?_eq_none (by omega), List.getElem?_replicate]
    split <;> rfl
theorem ch_step {key b : Bts} {i : Nat} {block behind : Bts} {h : List W} {t : Nat} (H : Ch key b i block behind h t) (hb : behind ≠ []) :
    block.length = 64 ∧ Ch key b (i + 1) (behind.take 64) (behind.drop 64) (blockV h (wordsV block 16) (t + 64) false) (t + 64) := by
  have hlen : 64 * (i + 1) < (msgV key b).length := by
    have h1 := List.length_pos_iff.2 hb
    rw [H.beh, List.length_drop] at h1
    omega
  have hnb : i + 2 ≤ fullN (msgV key b).length / 64 := by
    unfold fullN
    rw [if_neg (by omega)]
    omega
  refine ⟨?_, ?_, ?_, ?_, ?_, ?_⟩
  · rw [H.blk, List.length_take, List.length_drop]; omega
  · rw [H.beh]
  · rw [H.beh, List.drop_drop, show 64 * (i + 1) + 64 = 64 * (i + 1 + 1) by omega]
  · show _ = blockV _ _ _ _
    rw [if_neg (by omega), show decide (i + 1 = fullN (msgV key b).length / 64) = false from decide_eq_false (by omega), cut_words, ← H.blk, ← H.hsh, H.tak]
  · rw [H.tak]; omega
  · omega
theorem ch_end {key b : Bts} {i : Nat} {block behind : Bts} {h : List W} {t : Nat} (H : Ch key b i block behind h t) (hb : behind = []) :
    block.length ≤ 64 ∧ outV (blockV h (wordsV block 16) (t + block.length) true) 32 = digV key b := by
  have hlen : (msgV key b).length ≤ 64 * (i + 1) := by
    have h1 := H.beh
    rw [hb] at h1
    have := congrArg List.length h1
    rw [List.length_drop, List.length_nil] at this
    omega
  have hlt := H.lt
  have hnb : i + 1 = fullN (msgV key b).length / 64 := by
    unfold fullN at hlt ⊢
    split at hlt <;> rename_i q
    · rw [if_pos q]; omega
    · rw [if_neg q]; omega
  have hge : 64 * i ≤ (msgV key b).length := by
    unfold fullN at hlt
    split at hlt <;> omega
  have hbl : t + block.length = (msgV key b).length := by
    rw [H.tak, H.blk, List.length_take, List.length_drop]
    omega
  refine ⟨by rw [H.blk, List.length_take]; omega, ?_⟩
  unfold digV
  rw [← hnb]
  show _ = outV (blockV _ _ _ _) 32
  rw [if_pos rfl, show decide (i + 1 = i + 1) = true from decide_eq_true rfl, cut_words, ← H.blk, hbl, hnb, ← H.hsh]
theorem ch_len {key b : Bts} {i : Nat} {block behind : Bts} {h : List W} {t : Nat} (H : Ch key b i block behind h t) : block.length ≤ 64 ∧ behind.length ≤ (msgV key b).length ∧ (behind ≠ [] → t + 64 ≤ (msgV key b).length) ∧ t ≤ (msgV key b).length ∧ h.length = 8 := by
  refine ⟨by rw [H.blk, List.length_take]; omega, by rw [H.beh, List.length_drop]; omega, fun hb => ?_, ?_, ?_⟩
  · have h1 := List.length_pos_iff.2 hb
    rw [H.beh, List.length_drop] at h1
    rw [H.tak]
    omega
  · have hlt := H.lt
    rw [H.tak]
    unfold fullN at hlt
    split at hlt <;> omega
  · rw [H.hsh]
    cases i with
    | zero => rfl
    | succ i => show (endV _ _ 8).length = 8; unfold endV; rw [List.length_map, List.length_range]
theorem msg_len (key b : Bts) (h : key.length ≤ 64) : (msgV key b).length ≤ 64 + b.length := by
  unfold msgV
  rw [List.length_append]
  split
  · simp only [List.length_nil]; omega
  · rw [List.length_append, List.length_replicate]; omega
end Go.Proofs.YtoikgnmhnlcbhaaDoor.dg
