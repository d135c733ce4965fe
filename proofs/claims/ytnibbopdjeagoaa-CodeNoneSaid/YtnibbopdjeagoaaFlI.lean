/-
  The program's reader: its cells, the mathematics of its next number, its small methods.
-/
import Derived.Test.YtnibbopdjeagoaaFlG
import Derived.Test.YtnibbopdjeagoaaBitsG
import Derived.StillTailTactics
namespace Go.Proofs.Ytnibbopdjeagoaa.fl
set_option maxRecDepth 100000
open Go.RowKit Go.Maps
set_option maxRecDepth 100000

theorem num_div {l : List Int} (h : AllBit l) (k : Nat) : numI l / 2 ^ k = numI (l.drop k) := by
  have hp : (0 : Int) < 2 ^ k := Int.pow_pos (by omega)
  rcases Nat.le_total k l.length with hk | hk
  · have e : numI l = numI (l.take k) + 2 ^ k * numI (l.drop k) := by
      conv => lhs; rw [← List.take_append_drop k l, numI_append, List.length_take, Nat.min_eq_left hk]
    have hi := numI_in (l.take k) (h.sub (List.take_sublist _ _))
    rw [List.length_take, Nat.min_eq_left hk] at hi
    rw [e, Int.add_mul_ediv_left _ _ (by omega), Int.ediv_eq_zero_of_lt hi.1 hi.2, Int.zero_add]
  · have hi := numI_in l h
    have h2 : (2 : Int) ^ l.length ≤ 2 ^ k := by exact_mod_cast Nat.pow_le_pow_right (n := 2) (by omega) hk
    rw [List.drop_eq_nil_of_le hk, Int.ediv_eq_zero_of_lt hi.1 (by omega)]
    rfl
theorem num_mod {l : List Int} (h : AllBit l) (k : Nat) : numI l % 2 ^ k = numI (l.take k) := by
  have hp : (0 : Int) < 2 ^ k := Int.pow_pos (by omega)
  rcases Nat.le_total k l.length with hk | hk
  · have e : numI l = numI (l.take k) + 2 ^ k * numI (l.drop k) := by
      conv => lhs; rw [← List.take_append_drop k l, numI_append, List.length_take, Nat.min_eq_left hk]
    have hi := numI_in (l.take k) (h.sub (List.take_sublist _ _))
    rw [List.length_take, Nat.min_eq_left hk] at hi
    rw [e, Int.add_mul_emod_self_left, Int.emod_eq_of_lt hi.1 hi.2]
  · have hi := numI_in l h
    have h2 : (2 : Int) ^ l.length ≤ 2 ^ k := by exact_mod_cast Nat.pow_le_pow_right (n := 2) (by omega) hk
    rw [List.take_of_length_le hk, Int.emod_eq_of_lt hi.1 (by omega)]
theorem bits_take4 (c : List UInt8) : bitsOf (c.take 4) = (bitsOf c).take 32 := by
  rcases Nat.le_total 4 c.length with h | h
  · rw [← bitsOf_take c 4 h]
  · rw [List.take_of_length_le h, List.take_of_length_le (by rw [bitsOf_length]; omega)]
/-- The next number, out of four bytes. -/
theorem next_math {b : List UInt8} {p n : Nat} (hp : p ≤ 8 * b.length) (hn : n ≤ 24) : numI (bitsOf ((b.drop (p / 8)).take 4)) / 2 ^ (p % 8) % 2 ^ n = numI (((bitsOf b).drop p).take n) := by
  have h1 := bitsOf_bits ((b.drop (p / 8)).take 4)
  rw [num_div h1, num_mod (h1.sub (List.drop_sublist _ _)), bits_take4, ← bitsOf_drop b (p / 8) (by omega), List.drop_take, List.take_take, List.drop_drop, Nat.min_eq_left (by omega), Nat.div_add_mod]
theorem wraps_i64 (n : Int) (h₀ : 0 ≤ n) (h₁ : n < 2 ^ 63) : IntKind.i64.wrap n = n := by rw [IntKind.wrap_i64]; omega
theorem or_up {x y : Int} {i : Nat} (hy0 : 0 ≤ y) (hy : y < 2 ^ i) (hx : 0 ≤ x) (hxi : x * 2 ^ i < 2 ^ 63) (hy2 : y < 2 ^ 63) : bits .or .i64 y (x * 2 ^ i) = y + x * 2 ^ i := by
  obtain ⟨a, rfl⟩ := Int.eq_ofNat_of_zero_le hx
  obtain ⟨b, rfl⟩ := Int.eq_ofNat_of_zero_le hy0
  have ha : a * 2 ^ i < 2 ^ 63 := by exact_mod_cast hxi
  have hb : b < 2 ^ 63 := by exact_mod_cast hy2
  have hb' : b < 2 ^ i := by exact_mod_cast hy
  have e : ((a : Int) * 2 ^ i) = ((a * 2 ^ i : Nat) : Int) := by simp
  rw [e, (bits_nat .i64 63 (by decide) wraps_i64 b (a * 2 ^ i) hb ha).2, Nat.or_comm, Nat.mul_comm, ← Nat.two_pow_add_eq_or_of_lt hb' a]
  simp
  omega
theorem and_low {x : Int} {i : Nat} (hx0 : 0 ≤ x) (hx : x < 2 ^ 63) (hi : i ≤ 63) : bits .and .i64 x (2 ^ i - 1) = x % 2 ^ i := bits_mask .i64 63 (by decide) wraps_i64 i hi x hx0 hx
/-- Up to a whole byte. -/
theorem and7_neg (p : Nat) (hp : p ≤ 9223372036854775807) : bits .and .i64 (-(p : Int)) 7 = ((8 - p % 8) % 8 : Nat) := by
  have e : (BitVec.ofInt 64 (-(p : Int)) &&& BitVec.ofInt 64 7).toNat = (8 - p % 8) % 8 := by
    have h7 : (BitVec.ofInt 64 7).toNat = 2 ^ 3 - 1 := by decide
    rw [BitVec.toNat_and, h7, Nat.and_two_pow_sub_one_eq_mod, BitVec.toNat_ofInt]
    omega
  show IntKind.i64.wrap ((BitVec.ofInt 64 (-(p : Int)) &&& BitVec.ofInt 64 7).toNat : Int) = _
  rw [e, IntKind.wrap_i64]
  omega

/-- The program's reader of bytes b at bit p: its block g, its bytes' row A; both, and no other, lie in S. -/
structure RdX (w : World) (g : Nat) (A : Option Addr) (cap : Nat) (b : List UInt8) (p : Nat) (S : Nat → Prop) : Prop where
  blk : w.heap[g]? = some (.cells #[.int .i64 (p : Int), .bool true, .slice A b.length cap] 79 (0, 0))
  own : S g
  row : b ≠ [] → ∃ q, A = some ⟨q, 0, none⟩ ∧ S q ∧ q ≠ g ∧ ∀ j x, b[j]? = some x → w.cell? ⟨q, j, none⟩ = some (.int .u8 (x.toNat : Int))
  nil : A = none → cap = 0
  cap : b.length ≤ cap
  le : p ≤ 8 * b.length
  len : b.length ≤ 140737488351232
  low : ∀ i, S i → i < w.heap.size
def PR : RP := fun w a b p S => ∃ g A cap, a = ⟨g, 0, none⟩ ∧ RdX w g A cap b p S
section
variable {w w' : World} {g cap p : Nat} {A : Option Addr} {b : List UInt8} {S S' : Nat → Prop}
theorem RdX.keep (h : RdX w g A cap b p S) (hF : Fr S' w w') (hS : ∀ i, S i → ¬ S' i) : RdX w' g A cap b p S :=
  ⟨(hF.block g (h.low g h.own) (hS g h.own)).trans h.blk, h.own, fun hne => by
    obtain ⟨q, e, hq, hg, hc⟩ := h.row hne
    exact ⟨q, e, hq, hg, fun j x hj => (World.cell?_of_block (w := w) (w' := w') (hF.block q (h.low q hq) (hS q hq))).trans (hc j x hj)⟩, h.nil, h.cap, h.le, h.len, fun i hi => Nat.lt_of_lt_of_le (h.low i hi) hF.size⟩
theorem RdX.still (h : RdX w g A cap b p S) (hF : Fr (fun _ => False) w w') : RdX w' g A cap b p S := h.keep hF (fun _ _ e => e)
/-- It stands elsewhere. -/
theorem RdX.move (h : RdX w g A cap b p S) (q : Nat) (hq : q ≤ 8 * b.length) : RdX (w.setCell ⟨g, 0, none⟩ (.int .i64 (q : Int))) g A cap b q S :=
  ⟨by rw [heap_setCell_same _ _ _ _ _ _ h.blk]; rfl, h.own, fun hne => by
    obtain ⟨k, e, hk, hg, hc⟩ := h.row hne
    exact ⟨k, e, hk, hg, fun j x hj => (World.cell?_of_block (w := w) (Below.heap_setCell _ _ _ _ hg)).trans (hc j x hj)⟩, h.nil, h.cap, hq, h.len, fun i hi => by
      have := h.low i hi
      simpa [World.setCell] using this⟩
theorem RdX.fr (h : RdX w g A cap b p S) (v : Value) : Fr S w (w.setCell ⟨g, 0, none⟩ v) := (Fr.refl S w).setCell (p := ⟨g, 0, none⟩) (Or.inl h.own) v
theorem RdX.rd (h : RdX w g A cap b p S) : Rd w w.heap.size A b := fun hne => by
  obtain ⟨q, e, hq, _, hc⟩ := h.row hne
  exact ⟨q, 0, e, h.low q hq, fun j x hj => by rw [Nat.zero_add]; exact hc j x hj⟩
theorem RdX.c0 (h : RdX w g A cap b p S) : w.cell? ⟨g, 0, none⟩ = some (.int .i64 (p : Int)) := (cellAt h.blk 0).trans rfl
theorem RdX.c1 (h : RdX w g A cap b p S) : w.cell? ⟨g, 1, none⟩ = some (.bool true) := (cellAt h.blk 1).trans rfl
theorem RdX.c2 (h : RdX w g A cap b p S) : w.cell? ⟨g, 2, none⟩ = some (.slice A b.length cap) := (cellAt h.blk 2).trans rfl
theorem RdX.f0 (h : RdX w g A cap b p S) : w.frozen? ⟨g, 0, none⟩ = false := freeAt h.blk 0
theorem RdX.p64 (h : RdX w g A cap b p S) : p ≤ 1125899906842624 := by have := h.le; have := h.len; omega
end

set_option maxHeartbeats 2000000 in
theorem pmaybe (w : World) (n : Int) (hn : Big n) : Calls Try.prog 68 #[.int .i64 n] w fun e w' => e = .returned (.bool (decide (0 ≤ n) && decide (n ≤ 24))) ∧ w = w' := by
  obtain ⟨h1, h2⟩ := hn
  by_cases h : 0 ≤ n
  · by_cases k : n ≤ 24
    · have HD := Lib.hid (show (decide (0 ≤ n) && decide (n ≤ 24)) = true by rw [decide_eq_true h, decide_eq_true k]; rfl)
      rw [HD.out]
      go_enter Try.func68, Try.ntmps68
      go_wp2_with fail
      go_ret
      exact ⟨rfl, rfl⟩
    · have HD := Lib.hid (show (decide (0 ≤ n) && decide (n ≤ 24)) = false by rw [decide_eq_false k, Bool.and_false])
      rw [HD.out]
      go_enter Try.func68, Try.ntmps68
      go_wp2_with fail
      go_ret
      exact ⟨rfl, rfl⟩
  · have HD := Lib.hid (show (decide (0 ≤ n) && decide (n ≤ 24)) = false by rw [decide_eq_false h]; rfl)
    rw [HD.out]
    go_enter Try.func68, Try.ntmps68
    go_wp2_with fail
    go_ret
    exact ⟨rfl, rfl⟩
section
variable {w : World} {g cap p : Nat} {A : Option Addr} {b : List UInt8} {S : Nat → Prop}
set_option maxHeartbeats 2000000 in
theorem pmissing (h : RdX w g A cap b p S) : Calls Try.prog 51 #[.pointer (some ⟨g, 0, none⟩)] w fun e w' => e = .returned (.bool false) ∧ w = w' := by
  have c1 := h.c1
  clear h
  go_enter Try.func51, Try.ntmps51
  go_wp2_with fail
  go_ret
  exact ⟨rfl, rfl⟩
set_option maxHeartbeats 2000000 in
theorem pleft (h : RdX w g A cap b p S) : Calls Try.prog 54 #[.pointer (some ⟨g, 0, none⟩)] w fun e w' => e = .returned (.int .i64 ((8 * b.length - p : Nat) : Int)) ∧ Calm w w' := by
  have c0 := h.c0
  have c2 := h.c2
  have h1 := h.le
  have h2 := h.len
  obtain ⟨n, hn⟩ : ∃ n, n = b.length := ⟨_, rfl⟩
  rw [← hn] at c2 h1 h2 ⊢
  clear h hn
  go_enter Try.func54, Try.ntmps54
  go_wp2_with fail
  go_quiet (fail)
  go_wp2
  go_ret
  exact ⟨by go_num, nq, rfl⟩
set_option maxHeartbeats 2000000 in
theorem pwithin (w : World) (p : Nat) (x : Bool) (hp : p ≤ 1125899906842624) : Calls Try.prog 69 #[.agg #[.int .i64 (p : Int), .bool x]] w fun e w' => e = .returned (.bool (decide (p % 8 ≠ 0))) ∧ Fr (fun _ => False) w w' := by
  have HF := Lib.hid ((Fr.refl (fun _ => False) w).alloc (.cells #[.int .i64 (p : Int), .bool x] 76))
  have HA := Lib.hid (show ((p : Int) % 8 != 0) = decide (p % 8 ≠ 0) by
    by_cases h : p % 8 = 0
    · rw [show (p : Int) % 8 = 0 by omega, decide_eq_false (by omega)]; rfl
    · rw [decide_eq_true h, bne_iff_ne]; omega)
  go_enter Try.func69, Try.ntmps69
  go_wp2_with fail
  go_ret
  exact ⟨by rw [← HA.out]; rfl, HF.out⟩
set_option maxHeartbeats 2000000 in
theorem pat (h : RdX w g A cap b p S) : Calls Try.prog 26 #[.pointer (some ⟨g, 0, none⟩)] w fun e w' => e = .returned (.int .i64 (p : Int)) ∧ w = w' := by
  have HM := Lib.hid (pmissing h)
  have c0 := h.c0
  clear h
  go_enter Try.func26, Try.ntmps26
  go_wp2_with (go_at_call 51; refine HM.out.mono ?_; rintro e w' ⟨rfl, rfl⟩)
  go_ret
  exact ⟨rfl, rfl⟩
set_option maxHeartbeats 2000000 in
theorem pLeft (h : RdX w g A cap b p S) : Calls Try.prog 32 #[.pointer (some ⟨g, 0, none⟩)] w fun e w' => e = .returned (.int .i64 ((8 * b.length - p : Nat) : Int)) ∧ Calm w w' := by
  have HM := Lib.hid (pmissing h)
  have HL := Lib.hid (pleft h)
  clear h
  go_enter Try.func32, Try.ntmps32
  go_wp2_with (first
    | (go_at_call 51; refine HM.out.mono ?_; rintro e w' ⟨rfl, rfl⟩)
    | (go_at_call 54; refine HL.out.mono ?_; rintro e w' ⟨rfl, n, rfl⟩))
  go_ret
  exact ⟨rfl, n, rfl⟩
end
end Go.Proofs.Ytnibbopdjeagoaa.fl
