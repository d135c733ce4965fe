/-
  The document's zero, octal, put.
-/
import Derived.Test.YtdocanihocbhhaaDoorHeP
import Derived.Lib.ConvBytes
namespace Go.Proofs.YtdocanihocbhhaaDoor.he
set_option maxRecDepth 100000
open Go.RowKit Go.Maps
set_option maxRecDepth 100000

/-! ### zero -/
theorem textL_eq {s : Bts} : textL s = s ↔ (0 : UInt8) ∉ s := by
  constructor
  · intro h hm
    have h2 : ∀ y ∈ s.takeWhile (fun x => decide (x ≠ 0)), decide (y ≠ 0) = true := fun y hy => List.all_eq_true.1 List.all_takeWhile y hy
    unfold textL at h
    rw [h] at h2
    have := h2 0 hm
    simp at this
  · intro h
    have h2 := text_pad (k := 0) h
    unfold padR at h2
    rwa [Nat.zero_sub, List.replicate_zero, List.append_nil] at h2
theorem conv_rd (w : World) (s : ByteArray) : Rd (Lib.bytesWorld w 5 s) (Lib.bytesWorld w 5 s).heap.size (some ⟨w.heap.size, 0, none⟩) s.data.toList := fun _ => ⟨w.heap.size, 0, rfl, by rw [Lib.bytesWorld_size]; omega, fun j x hj => by
  have hjl := (List.getElem?_eq_some_iff.1 hj).1
  rw [Nat.zero_add, Lib.bytesWorld_cell w _ s j (by rw [Array.length_toList] at hjl; exact hjl), List.getD_eq_getElem?_getD, hj]
  rfl⟩
theorem conv_fr (w : World) (s : ByteArray) : Fr (fun _ => False) w (Lib.bytesWorld w 5 s) := by
  refine ⟨rfl, rfl, rfl, by rw [Lib.bytesWorld_size]; omega, fun i hi _ => Lib.bytesWorld_at_old w _ s i hi⟩
set_option maxHeartbeats 2000000 in
theorem rzero (w : World) (s : ByteArray) (hs : s.size ≤ 140737488351232) : Calls Tryd.prog 36 #[.string s] w fun e w' => e = .returned (.bool (decide ((0 : UInt8) ∈ s.data.toList))) ∧ Fr (fun _ => False) w w' := by
  have kc := Lib.run_convert_string_bytes (P := Tryd.prog) w 9 22 5 s Tryd.underlying9 Tryd.underlying22 Tryd.underlying5
  have hcap : s.size ≤ grownCap w s.size 0 5 := grownCap_ge w _ _ _
  have hl : s.data.toList.length = s.size := Array.length_toList
  have HT := Lib.hid (rtext (Lib.bytesWorld w 5 s) ⟨w.heap.size, 0, none⟩ (grownCap w s.size 0 5) _ s.data.toList (conv_rd w s) (by omega) (by omega))
  rw [hl] at HT
  have HF := Lib.hid (conv_fr w s)
  obtain ⟨W1, hW1⟩ : ∃ W, W = Lib.bytesWorld w 5 s := ⟨_, rfl⟩
  obtain ⟨G, hG⟩ : ∃ G, G = grownCap w s.size 0 5 := ⟨_, rfl⟩
  rw [← hW1, ← hG] at kc HT
  rw [← hW1] at HF
  clear hW1 hG hcap
  by_cases hz : (0 : UInt8) ∈ s.data.toList
  · rw [decide_eq_true hz]
    have hne : ((tx (textL s.data.toList)).toList == s.toList) = false := by
      rw [tx_toL, toL]
      exact beq_eq_false_iff_ne.2 (fun e => textL_eq.1 e hz)
    obtain ⟨nm, hnm⟩ : ∃ v, v = tx (textL s.data.toList) := ⟨_, rfl⟩
    rw [← hnm] at HT hne
    clear hz hnm hl
    go_enter Tryd.func36, Tryd.ntmps36
    go_wp2_with fail
    refine HT.out.mono ?_
    rintro e w' ⟨rfl, rfl⟩
    go_wp2_with fail
    go_ret
    exact ⟨rfl, HF.out⟩
  · rw [decide_eq_false hz]
    have hne : tx (textL s.data.toList) = s := by
      rw [textL_eq.2 hz, ← toL, tx_of]
    rw [hne] at HT
    clear hz hne hl
    go_enter Tryd.func36, Tryd.ntmps36
    go_wp2_with fail
    refine HT.out.mono ?_
    rintro e w' ⟨rfl, rfl⟩
    go_wp2_with fail
    go_ret
    exact ⟨rfl, HF.out⟩

/-! ### octal -/
theorem octL_cons : ∀ (i X : Nat), octL (i + 1) X = UInt8.ofNat (48 + X / 8 ^ i % 8) :: octL i X
  | 0, X => by rw [octL, octL, Nat.pow_zero, Nat.div_one]; rfl
  | i + 1, X => by
    rw [octL, octL_cons i (X / 8), octL, Nat.div_div_eq_div_mul, show 8 * 8 ^ i = 8 ^ (i + 1) by rw [Nat.pow_succ, Nat.mul_comm]]
    rfl
theorem one_str (w : World) (d : Nat) (hd : d < 256) : (convert 22 9 (.slice (some ⟨w.heap.size, 0, none⟩) 1 1)).run Tryd.prog (w.alloc (.cells #[.int .u8 (d : Int)] 5)) = .ok (.string (tx [UInt8.ofNat d])) (w.alloc (.cells #[.int .u8 (d : Int)] 5)) := by
  have h := run_convert_bytes_back (P := Tryd.prog) (w.alloc (.cells #[.int .u8 (d : Int)] 5)) 22 9 5 ⟨w.heap.size, 0, none⟩ 1 [UInt8.ofNat d] Tryd.underlying22 Tryd.underlying5 Tryd.underlying9 (fun j hj => by
    obtain rfl : j = 0 := by simpa using hj
    rw [add_plain, cellAt (heap_alloc_new w _)]
    show some (Value.int .u8 (d : Int)) = some (.int .u8 ((UInt8.ofNat d).toNat : Int))
    rw [UInt8.toNat_ofNat', Nat.mod_eq_of_lt (by omega)])
  exact h
theorem tx_cons (x : UInt8) (l : Bts) : tx [x] ++ tx l = tx (x :: l) := by
  rw [tx_app, tx_toL, tx_toL]
  rfl
set_option maxHeartbeats 2000000 in
theorem roctalN (w : World) (X k : Nat) (hX : X < 68719476736) (hk : k ≤ 20) : Calls Tryd.prog 38 #[.int .i64 (X : Int), .int .i64 (k : Int)] w fun e w' => e = .returned (.string (tx (octL k X))) ∧ Fr (fun _ => False) w w' := by
  go_enter Tryd.func38, Tryd.ntmps38
  go_wp2_with fail
  go_loopw [0, 5, 6] (fun x s i wr => ∃ (j Y : Nat) (S : ByteArray), j ≤ k ∧ Y < 68719476736 ∧ S.size ≤ 20 ∧ x = .int .i64 Y ∧ s = .string S ∧ i = .int .i64 j ∧ Hid (Y = X / 8 ^ j ∧ S = tx (octL j X) ∧ Fr (fun _ => False) w wr)) (fun _ _ i _ => k - (intOf i).toNat)
  case atStart => exact ⟨0, X, ⟨#[]⟩, by omega, hX, by decide, rfl, rfl, rfl, (show _ ∧ _ ∧ _ from ⟨by rw [Nat.pow_zero, Nat.div_one], rfl, Fr.refl _ _⟩)⟩
  case round =>
    obtain ⟨j, Y, S, hj, hY, hS, rfl, rfl, rfl, HC⟩ := hrel
    by_cases hlt : j < k
    · have hrem : ((Y : Int)).tmod 8 = ((Y % 8 : Nat) : Int) := by rw [Int.tmod_eq_emod_of_nonneg (by omega)]; omega
      have hquo : ((Y : Int)).tdiv 8 = ((Y / 8 : Nat) : Int) := by rw [Int.tdiv_eq_ediv_of_nonneg (by omega)]; omega
      have kc := one_str wr (48 + Y % 8) (by omega)
      rw [show ((48 + Y % 8 : Nat) : Int) = 48 + (Y : Int) % 8 by omega] at kc
      obtain ⟨D, hD⟩ : ∃ D, D = tx [UInt8.ofNat (48 + Y % 8)] := ⟨_, rfl⟩
      have hDs : D.size = 1 := by rw [hD]; rfl
      have hsz : D.size + S.size ≤ 9223372036854775807 := by omega
      have hY8 : Y / 8 < 68719476736 := by omega
      have hjk : j + 1 ≤ k := hlt
      have HN := Lib.hid (show Y / 8 = X / 8 ^ (j + 1) ∧ D ++ S = tx (octL (j + 1) X) ∧ Fr (fun _ => False) w (wr.alloc (.cells #[.int .u8 (48 + (Y : Int) % 8)] 5)) from by
        obtain ⟨c1, c2, c3⟩ := HC.out
        refine ⟨by rw [c1, Nat.div_div_eq_div_mul, Nat.pow_succ], ?_, c3.alloc _⟩
        rw [hD, c2, tx_cons, octL_cons, c1])
      have hDS : (D ++ S).size ≤ 20 := by
        rw [HN.out.2.1]
        show (octL (j + 1) X).toArray.size ≤ 20
        rw [List.size_toArray, octL_length]
        omega
      rw [← hD] at kc
      clear hD hDs HC
      go_wp2_with fail
      go_roundw
      case rel => exact ⟨j + 1, Y / 8, D ++ S, hjk, hY8, hDS, by go_num, rfl, by go_num, HN⟩
      case measure => simp [intOf]; omega
    · obtain rfl : j = k := by omega
      go_wp2_with fail
      go_ret
      exact ⟨by rw [HC.out.2.1]; rfl, HC.out.2.2⟩

/-! ### put -/
/-- Bytes s laid over l from place a on, k of them. -/
def layL (l : Bts) (a : Nat) (s : Bts) (k : Nat) : Bts := l.take a ++ s.take k ++ l.drop (a + k)
theorem layL_zero (l : Bts) (a : Nat) (s : Bts) : layL l a s 0 = l := by
  unfold layL
  rw [List.take_zero, List.append_nil, Nat.add_zero, List.take_append_drop]
theorem layL_len {l s : Bts} {a k : Nat} (h : a + k ≤ l.length) (hk : k ≤ s.length) : (layL l a s k).length = l.length := by
  unfold layL
  rw [List.length_append, List.length_append, List.length_take, List.length_take, List.length_drop]
  omega
theorem layL_next {l s : Bts} {a k : Nat} (h : a + k < l.length) (hk : k < s.length) : (layL l a s k).set (a + k) s[k] = layL l a s (k + 1) := by
  unfold layL
  have h1 : (l.take a ++ s.take k).length = a + k := by rw [List.length_append, List.length_take, List.length_take]; omega
  rw [List.set_append_right _ _ (by omega), h1, Nat.sub_self, List.drop_eq_getElem_cons h, List.set_cons_zero, List.take_succ_eq_append_getElem hk]
  simp only [List.append_assoc, List.singleton_append, Nat.add_assoc]
set_option maxHeartbeats 2000000 in
theorem rput (w0 w : World) (A : Option Addr) (cap n a : Nat) (l : Bts) (s : ByteArray) (ho : Own w w0.heap.size (.slice A l.length cap) l) (hn : n = l.length) (hF : Fr (fun _ => False) w0 w) (ha : a + s.size ≤ n) (hn2 : n ≤ 100000) :
    Calls Tryd.prog 37 #[.slice A n cap, .int .i64 (a : Int), .string s] w fun e w' => e = .returned (.tuple #[]) ∧ Own w' w0.heap.size (.slice A n cap) (layL l a s.data.toList s.size) ∧ Fr (fun _ => False) w0 w' := by
  have hsl : s.data.toList.length = s.size := Array.length_toList
  have H0 := Lib.hid (show Own w w0.heap.size (.slice A n cap) (layL l a s.data.toList 0) ∧ Fr (fun _ => False) w0 w from by rw [layL_zero, hn]; exact ⟨ho, hF⟩)
  have HN := Lib.hid hn
  have HSL := Lib.hid hsl
  clear ho hn hF hsl
  go_enter Tryd.func37, Tryd.ntmps37
  go_wp2_with fail
  go_loopw [6] (fun i wr => ∃ k : Nat, k ≤ s.size ∧ i = .int .i64 k ∧ Hid (Own wr w0.heap.size (.slice A n cap) (layL l a s.data.toList k) ∧ Fr (fun _ => False) w0 wr)) (fun i _ => s.size - (intOf i).toNat)
  case atStart => exact ⟨0, by omega, rfl, (show _ ∧ _ from H0.out)⟩
  case round =>
    obtain ⟨k, hk, rfl, HC⟩ := hrel
    clear H0
    by_cases hlt : k < s.size
    · have hkl : k < s.data.toList.length := by rw [HSL.out]; exact hlt
      have hlen : (layL l a s.data.toList k).length = n := by rw [layL_len (by have := HN.out; omega) (by omega)]; exact HN.out.symm
      have ho := HC.out.1
      rw [← hlen] at ho
      obtain ⟨g, rfl, hb, _, hc, hf, hs⟩ := ho.at_ (k := a + k) (by omega)
      have hnew := hs s[k]
      have hsk : s[k] = s.data.toList[k] := rfl
      have HNew := Lib.hid (show Own (wr.setCell ⟨g, a + k, none⟩ (.int .u8 (s[k].toNat : Int))) w0.heap.size (.slice (some ⟨g, 0, none⟩) n cap) (layL l a s.data.toList (k + 1)) ∧ Fr (fun _ => False) w0 (wr.setCell ⟨g, a + k, none⟩ (.int .u8 (s[k].toNat : Int))) from by
        refine ⟨?_, HC.out.2.setCell (p := ⟨g, a + k, none⟩) (Or.inr hb) _⟩
        have h2 := hnew
        rw [hsk, layL_next (by have := HN.out; omega) hkl] at h2
        rw [layL_len (by have := HN.out; omega) (by omega), ← HN.out] at h2
        exact h2)
      generalize ((layL l a s.data.toList k)[a + k]'(by omega)).toNat = y at hc
      have hi1 : (0 : Int) ≤ (a : Int) + k := by omega
      have hi2 : (a : Int) + k < n := by omega
      have hkk : k + 1 ≤ s.size := hlt
      clear hnew hs ho HC
      go_wp2_with fail
      go_roundw
      case rel => exact ⟨k + 1, hkk, by go_num, HNew⟩
      case measure => simp [intOf]; omega
    · have hkm : k = s.size := by omega
      rw [hkm] at HC ⊢
      clear hkm hlt hk
      go_wp2_with fail
      exact (show _ ∧ _ from ⟨rfl, .tuple #[], results_none rfl _ _ _, rfl, HC.out⟩)
end Go.Proofs.YtdocanihocbhhaaDoor.he
