/-
  The program's writer at plain blocks: putKind, putPlain, Store.
-/
import Derived.Test.YtcdhakfmljjaoaaGreatDoorFeO
namespace Go.Proofs.YtcdhakfmljjaoaaGreatDoor.ft
set_option maxRecDepth 100000
open Go.RowKit Go.Maps Go.Proofs.YtcdhakfmljjaoaaGreatDoor.fl Go.Proofs.YtcdhakfmljjaoaaGreatDoor.cd
set_option maxRecDepth 100000

section
variable {w w1 : World} {a : Addr} {L : List Int} {S : Nat → Prop}
theorem vaft_refl (h : PV w a L S) : VAft PV w a S L w := ⟨S, h, fun _ e => Or.inl e, Fr.refl _ _⟩
theorem vaft_on {w2 : World} {L2 : List Int} {S1 : Nat → Prop} (hS : ∀ i, S1 i → S i ∨ w.heap.size ≤ i) (hF : Fr S w w1) (h : VAft PV w1 a S1 L2 w2) : VAft PV w a S L2 w2 := by
  obtain ⟨S2, h1, h2, h3⟩ := h
  exact ⟨S2, h1, fun i hi => (h2 i hi).elim (hS i) (fun e => Or.inr (Nat.le_trans hF.size e)), hF.trans h3 (fun i hi e => (hS i e).elim id (fun e2 => absurd hi (by omega)))⟩
/-- A number more. -/
theorem put_on (h : VAft PV w a S L w1) (n : Int) (k : Nat) (hL : L.length ≤ 4000000) (hn0 : 0 ≤ n) (hk : k ≤ 24) (hn : n < 2 ^ k) : Calls Tryz.prog 100 #[.pointer (some a), .int .i64 n, .int .i64 (k : Int)] w1 fun e w2 => e = .returned (.int .i64 0) ∧ VAft PV w a S (L ++ lowI n k) w2 := by
  obtain ⟨S1, h1, h2, h3⟩ := h
  have h24 : (2 : Int) ^ k ≤ 2 ^ 24 := by exact_mod_cast Nat.pow_le_pow_right (n := 2) (by omega) hk
  have hmay : mayB n (k : Int) = true := (mayB_iff _ _).2 ⟨by omega, by omega, hn0⟩
  have hlow : lowB n (k : Int) = true := by
    unfold lowB
    rw [hmay, Bool.true_and, Int.toNat_natCast]
    exact decide_eq_true (Int.ediv_eq_zero_of_lt hn0 hn)
  refine (flow_all.put w1 a L S1 n (k : Int) h1 hL (by omega) (by omega)).mono fun e w2 ⟨he, hv⟩ => ⟨by rw [he]; unfold putZ; rw [if_pos hlow], ?_⟩
  have e2 : putL' L n (k : Int) = L ++ lowI n k := by unfold putL' lowL; rw [if_pos hlow, if_pos hmay, Int.toNat_natCast]
  rw [e2] at hv
  exact vaft_on h2 h3 hv
end
theorem low_two {n : Nat} (h : n ≤ 65535) : lowI (n : Int) 16 = bitsOf [UInt8.ofNat (n % 256), UInt8.ofNat (n / 256)] := by
  have hb : AllBit (bitsOf [UInt8.ofNat (n % 256), UInt8.ofNat (n / 256)]) := bitsOf_bits _
  have e : numI (bitsOf [UInt8.ofNat (n % 256), UInt8.ofNat (n / 256)]) = (n : Int) := by
    have := byte_mod n h
    rw [bitsOf_cons, bitsOf_cons, show bitsOf [] = [] from rfl, List.append_nil, numI_append, num_byte, num_byte, lowI_length]
    omega
  have h2 := low_num _ hb
  rw [e, bitsOf_length] at h2
  exact h2
theorem pad_kind (Z : By) {x : UInt8} (hx : x = 0 ∨ x = 1) : padL (bitsOf Z ++ lowI (x.toNat : Int) 1 ++ lowI 0 2) = bitsOf (Z ++ [x]) := by
  have hl : (bitsOf Z ++ lowI (x.toNat : Int) 1 ++ lowI 0 2).length = 8 * Z.length + 3 := by
    rw [List.length_append, List.length_append, bitsOf_length, lowI_length, lowI_length]
  unfold padL
  rw [hl, show (8 - (8 * Z.length + 3) % 8) % 8 = 5 by omega, bitsOf_append, List.append_assoc, List.append_assoc]
  congr 1
  rcases hx with rfl | rfl
  · rfl
  · rfl
theorem blk_bits (Z : By) {x : UInt8} {d : By} (hd : d.length ≤ 65535) : bitsOf (Z ++ [x]) ++ lowI (d.length : Int) 16 ++ lowI ((65535 - d.length : Nat) : Int) 16 ++ bitsOf d = bitsOf (Z ++ blkV x d) := by
  rw [low_two hd, low_two (by omega), ← bitsOf_append, ← bitsOf_append, ← bitsOf_append]
  congr 1
  unfold blkV
  simp
set_option maxHeartbeats 2000000 in
theorem pputKind {w : World} {a : Addr} {L : List Int} {S : Nat → Prop} (h : PV w a L S) (hL : L.length ≤ 3999000) (k l : Nat) (hk : k < 4) (hl : l < 2) : Calls Tryz.prog 80 #[.pointer (some a), .int .i64 (k : Int), .int .i64 (l : Int)] w fun e w' => (∃ v, e = .returned v) ∧ VAft PV w a S (L ++ lowI (l : Int) 1 ++ lowI (k : Int) 2) w' := by
  have H1 := Lib.hid (put_on (vaft_refl h) (l : Int) 1 (by omega) (by omega) (by omega) (by omega))
  have H2 := Lib.hid (fun w1 (hv : VAft PV w a S (L ++ lowI (l : Int) 1) w1) => put_on hv (k : Int) 2 (by rw [List.length_append, lowI_length]; omega) (by omega) (by omega) (by omega))
  clear h
  go_enter Tryz.func80, Tryz.ntmps80
  go_wp2_with fail
  refine H1.out.mono ?_
  rintro e w1 ⟨rfl, g1⟩
  have G1 := Lib.hid g1
  clear g1
  go_wp2_with fail
  refine (H2.out _ G1.out).mono ?_
  rintro e w2 ⟨rfl, g2⟩
  have G2 := Lib.hid g2
  clear g2
  go_wp2_with fail
  go_end0
  exact ⟨⟨_, rfl⟩, G2.out⟩
end Go.Proofs.YtcdhakfmljjaoaaGreatDoor.ft
