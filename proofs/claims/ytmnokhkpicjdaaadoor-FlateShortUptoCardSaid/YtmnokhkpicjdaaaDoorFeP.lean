/-
  The program's writer at plain blocks: putKind, putPlain, Store.
-/
import Derived.Test.YtmnokhkpicjdaaaDoorFeO
namespace Go.Proofs.YtmnokhkpicjdaaaDoor.ft
set_option maxRecDepth 100000
open Go.RowKit Go.Maps Go.Proofs.YtmnokhkpicjdaaaDoor.fl Go.Proofs.YtmnokhkpicjdaaaDoor.cd
set_option maxRecDepth 100000

section
variable {w w1 : World} {a : Addr} {L : List Int} {S : Nat → Prop}
theorem vaft_refl (h : PV w a L S) : VAft PV w a S L w := ⟨S, h, fun _ e => Or.inl e, Fr.refl _ _⟩
theorem vaft_on {w2 : World} {L2 : List Int} {S1 : Nat → Prop} (hS : ∀ i, S1 i → S i ∨ w.heap.size ≤ i) (hF : Fr S w w1) (h : VAft PV w1 a S1 L2 w2) : VAft PV w a S L2 w2 := by
  obtain ⟨S2, h1, h2, h3⟩ := h
  exact ⟨S2, h1, fun i hi => (h2 i hi).elim (hS i) (fun e => Or.inr (Nat.le_trans hF.size e)), hF.trans h3 (fun i hi e => (hS i e).elim id (fun e2 => absurd hi (by omega)))⟩
/-- A number more. -/
theorem put_on (h : VAft PV w a S L w1) (n : Int) (k : Nat) (hL : L.length ≤ 4000000) (hn0 : 0 ≤ n) (hk : k ≤ 24) (hn : n < 2 ^ k) : Calls Tryd.prog 29 #[.pointer (some a), .int .i64 n, .int .i64 (k : Int)] w1 fun e w2 => e = .returned (.int .i64 0) ∧ VAft PV w a S (L ++ lowI n k) w2 := by
  obtain ⟨S1, h1, h2, h3⟩ := h
  have h24 : (2 : Int) ^ k ≤ 2 ^ 24 := by exact_mod_cast Nat.pow_le_pow_right (n := 2) (by omega) hk
  have hmay : mayB n (k : Int) = true := (mayB_iff _ _).2 ⟨by omega, by omega, hn0⟩
  have hlow : lowB n (k : Int) = true := by
    unfold lowB
    rw [hmay, Bool.true_and, Int.toNat_natCast]
    exact decide_eq_true (Int.ediv_eq_zero_of_lt hn0 hn)
  refine (flow_all.put w1 a L S1 n (k : Int) h1 hL (by omega) (by omega)).mono fun e w2 ⟨he, hv⟩ => ⟨by rw [he]; unfold putZ; rw [if_pos hlow], ?_⟩
  have e2 : putL' L n (k : Int) = L ++ lowI n k := by unfold putL' lowL; rw [if_pos hlow, if_pos hmay, Int.toNat_natCast]
  rw [e2] at hv
  exact vaft_on h2 h3 hv
theorem align_on (h : VAft PV w a S L w1) (hL : L.length ≤ 4000000) : Calls Tryd.prog 28 #[.pointer (some a)] w1 fun e w2 => e = .returned (.int .i64 0) ∧ VAft PV w a S (padL L) w2 := by
  obtain ⟨S1, h1, h2, h3⟩ := h
  exact (flow_all.walign w1 a L S1 h1 hL).mono fun e w2 ⟨he, hv⟩ => ⟨he, vaft_on h2 h3 hv⟩
theorem bytes_on (h : VAft PV w a S L w1) (hL : L.length ≤ 4000000) (h8 : L.length % 8 = 0) {B : Nat} (hB : B ≤ w.heap.size) (hS : ∀ i, S i → B ≤ i) {A : Option Addr} {cap : Nat} {d : By} (hr : Rd w B A d) (hA : A = none → cap = 0) (hc : d.length ≤ cap) (hd : d.length ≤ 100000) : Calls Tryd.prog 30 #[.pointer (some a), .slice A d.length cap] w1 fun e w2 => e = .returned (.int .i64 0) ∧ VAft PV w a S (L ++ bitsOf d) w2 := by
  obtain ⟨S1, h1, h2, h3⟩ := h
  have hr1 : Rd w1 w1.heap.size A d := (hr.kept h3 hB (fun i hi e => by have := hS i e; omega)).more (Nat.le_trans hB h3.size)
  refine (flow_all.wbytes w1 a L S1 A cap d h1 hL hr1 hA hc hd).mono fun e w2 ⟨he, hv⟩ => ⟨by rw [he]; unfold wbZ; rw [if_pos h8], ?_⟩
  have e2 : wbL L d = L ++ bitsOf d := by unfold wbL; rw [if_pos h8]
  rw [e2] at hv
  exact vaft_on h2 h3 hv
end
theorem low_two {n : Nat} (h : n ≤ 65535) : lowI (n : Int) 16 = bitsOf [UInt8.ofNat (n % 256), UInt8.ofNat (n / 256)] := by
  have hb : AllBit (bitsOf [UInt8.ofNat (n % 256), UInt8.ofNat (n / 256)]) := bitsOf_bits _
  have e : numI (bitsOf [UInt8.ofNat (n % 256), UInt8.ofNat (n / 256)]) = (n : Int) := by
    have := byte_mod n h
    rw [bitsOf_cons, bitsOf_cons, show bitsOf [] = [] from rfl, List.append_nil, numI_append, num_byte, num_byte, lowI_length]
    omega
  have h2 := low_num _ hb
  rw [e, bitsOf_length] at h2
  exact h2
theorem pad_kind (Z : By) {x : UInt8} (hx : x = 0 ∨ x = 1) : padL (bitsOf Z ++ lowI (x.toNat : Int) 1 ++ lowI 0 2) = bitsOf (Z ++ [x]) := by
  have hl : (bitsOf Z ++ lowI (x.toNat : Int) 1 ++ lowI 0 2).length = 8 * Z.length + 3 := by
    rw [List.length_append, List.length_append, bitsOf_length, lowI_length, lowI_length]
  unfold padL
  rw [hl, show (8 - (8 * Z.length + 3) % 8) % 8 = 5 by omega, bitsOf_append, List.append_assoc, List.append_assoc]
  congr 1
  rcases hx with rfl | rfl
  · rfl
  · rfl
theorem blk_bits (Z : By) {x : UInt8} {d : By} (hd : d.length ≤ 65535) : bitsOf (Z ++ [x]) ++ lowI (d.length : Int) 16 ++ lowI ((65535 - d.length : Nat) : Int) 16 ++ bitsOf d = bitsOf (Z ++ blkV x d) := by
  rw [low_two hd, low_two (by omega), ← bitsOf_append, ← bitsOf_append, ← bitsOf_append]
  congr 1
  unfold blkV
  simp
set_option maxHeartbeats 2000000 in
theorem pputKind {w : World} {a : Addr} {L : List Int} {S : Nat → Prop} (h : PV w a L S) (hL : L.length ≤ 3999000) (k l : Nat) (hk : k < 4) (hl : l < 2) : Calls Tryd.prog 27 #[.pointer (some a), .int .i64 (k : Int), .int .i64 (l : Int)] w fun e w' => (∃ v, e = .returned v) ∧ VAft PV w a S (L ++ lowI (l : Int) 1 ++ lowI (k : Int) 2) w' := by
  have H1 := Lib.hid (put_on (vaft_refl h) (l : Int) 1 (by omega) (by omega) (by omega) (by omega))
  have H2 := Lib.hid (fun w1 (hv : VAft PV w a S (L ++ lowI (l : Int) 1) w1) => put_on hv (k : Int) 2 (by rw [List.length_append, lowI_length]; omega) (by omega) (by omega) (by omega))
  clear h
  go_enter Tryd.func27, Tryd.ntmps27
  go_wp2_with fail
  refine H1.out.mono ?_
  rintro e w1 ⟨rfl, g1⟩
  have G1 := Lib.hid g1
  clear g1
  go_wp2_with fail
  refine (H2.out _ G1.out).mono ?_
  rintro e w2 ⟨rfl, g2⟩
  have G2 := Lib.hid g2
  clear g2
  go_wp2_with fail
  go_end0
  exact ⟨⟨_, rfl⟩, G2.out⟩
set_option maxHeartbeats 4000000 in
theorem pputPlain {w : World} {a : Addr} {Z : By} {S : Nat → Prop} (h : PV w a (bitsOf Z) S) (hL : 8 * Z.length ≤ 3000000) {B : Nat} (hB : B ≤ w.heap.size) (hS : ∀ i, S i → B ≤ i) {A : Option Addr} {cap : Nat} {d : By} (hr : Rd w B A d) (hA : A = none → cap = 0) (hc : d.length ≤ cap) (hd : d.length ≤ 65535) (x : UInt8) (hx : x = 0 ∨ x = 1) :
    Calls Tryd.prog 16 #[.pointer (some a), .slice A d.length cap, .int .i64 (x.toNat : Int)] w fun e w' => (∃ v, e = .returned v) ∧ VAft PV w a S (bitsOf (Z ++ blkV x d)) w' := by
  have hbl := bitsOf_length Z
  have hx2 : x.toNat < 2 := by rcases hx with rfl | rfl <;> decide
  have H1 := Lib.hid (pputKind h (by omega) 0 x.toNat (by omega) hx2)
  have hp := pad_kind Z hx
  have hlz : (bitsOf (Z ++ [x])).length = 8 * (Z.length + 1) := by rw [bitsOf_length, List.length_append]; rfl
  have H2 := Lib.hid (show ∀ w1, VAft PV w a S (bitsOf Z ++ lowI (x.toNat : Int) 1 ++ lowI ((0 : Nat) : Int) 2) w1 → _ from fun w1 hv => align_on hv (by rw [List.length_append, List.length_append, lowI_length, lowI_length]; omega))
  rw [show ((0 : Nat) : Int) = 0 from rfl, hp] at H2
  have H3 := Lib.hid (fun w1 (hv : VAft PV w a S (bitsOf (Z ++ [x])) w1) => put_on hv (d.length : Int) 16 (by omega) (by omega) (by omega) (by omega))
  have H4 := Lib.hid (fun w1 (hv : VAft PV w a S (bitsOf (Z ++ [x]) ++ lowI (d.length : Int) 16) w1) => put_on hv ((65535 - d.length : Nat) : Int) 16 (by rw [List.length_append, lowI_length]; omega) (by omega) (by omega) (by omega))
  have H5 := Lib.hid (fun w1 (hv : VAft PV w a S (bitsOf (Z ++ [x]) ++ lowI (d.length : Int) 16 ++ lowI ((65535 - d.length : Nat) : Int) 16) w1) => bytes_on hv (by rw [List.length_append, List.length_append, lowI_length, lowI_length]; omega) (by rw [List.length_append, List.length_append, lowI_length, lowI_length]; omega) hB hS hr hA hc (by omega))
  have HB := Lib.hid (blk_bits Z (x := x) hd)
  obtain ⟨n, hn⟩ : ∃ n, n = d.length := ⟨_, rfl⟩
  rw [← hn] at H3 H4 H5 HB hd ⊢
  obtain ⟨l, hl⟩ : ∃ l, l = x.toNat := ⟨_, rfl⟩
  have HL := Lib.hid hl
  rw [← hl] at H1 H2 ⊢
  have hsub : (65535 : Int) - (n : Int) = ((65535 - n : Nat) : Int) := by omega
  obtain ⟨m, hm⟩ : ∃ m, m = 65535 - n := ⟨_, rfl⟩
  have hmw : IntKind.i64.wrap (m : Int) = (m : Int) := IntWalk.i64_in _ (by omega)
  rw [← hm] at H4 H5 HB hsub
  clear h hr hA hc hn hl hm hp hx hbl hlz hx2
  go_enter Tryd.func16, Tryd.ntmps16
  go_wp2_with fail
  refine H1.out.mono ?_
  rintro e w1 ⟨⟨v, rfl⟩, g⟩
  have G1 := Lib.hid g
  clear g
  go_wp2_with fail
  refine (H2.out _ G1.out).mono ?_
  rintro e w2 ⟨rfl, g⟩
  have G2 := Lib.hid g
  clear g
  go_wp2_with fail
  refine (H3.out _ G2.out).mono ?_
  rintro e w3 ⟨rfl, g⟩
  have G3 := Lib.hid g
  clear g
  go_wp2_with fail
  refine (H4.out _ G3.out).mono ?_
  rintro e w4 ⟨rfl, g⟩
  have G4 := Lib.hid g
  clear g
  go_wp2_with fail
  refine (H5.out _ G4.out).mono ?_
  rintro e w5 ⟨rfl, g⟩
  have G5 := Lib.hid g
  clear g
  go_wp2_with fail
  go_end0
  exact ⟨⟨_, rfl⟩, by rw [← HB.out]; exact G5.out⟩
end Go.Proofs.YtmnokhkpicjdaaaDoor.ft
