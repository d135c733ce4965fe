/-
  The document's Zeros and Flip.
-/
import Derived.Test.YtccagamldlpefaaDoorCrcG
namespace Go.Proofs.YtccagamldlpefaaDoor
open Go.RowKit Go.Maps

/-- Noughts that make has laid, in a world with a name. -/
theorem made_at (w : World) (n : Nat) (h : n ≤ 140737488351232) : ∃ w1, (Instr.makeSlice 22 (.int .i64 (n : Int)) (.int .i64 (n : Int))).run Tryd.prog w = .ok (.slice (some ⟨w.heap.size, 0, none⟩) n n) w1 ∧
    Own w1 w.heap.size (.slice (some ⟨w.heap.size, 0, none⟩) (zeros n).length n) (zeros n) ∧ Fr (fun _ => False) w w1 ∧ w.heap.size < w1.heap.size :=
  ⟨_, run_make_bytes n h w, own_zb w n h, (Fr.refl _ w).alloc _, by simp⟩

theorem rsum_own {w : World} {base n cap : Nat} {A : Option Addr} {l : List UInt8} (ho : Own w base (.slice A l.length cap) l) (hn : l.length = n) (hl : n ≤ 9223372036854775807) :
    Calls Tryd.prog 11 #[.slice A n cap] w fun e w' => e = .returned (.int .u32 (uv (crcMore 0#32 l))) ∧ w = w' := by
  subst hn
  exact rsum_any w A cap _ l ho.rd hl

theorem sum_own {w : World} (hT : Tab w) {base n cap : Nat} {A : Option Addr} {l : List UInt8} (ho : Own w base (.slice A l.length cap) l) (hn : l.length = n) (hl : n ≤ 9223372036854775807) :
    Calls Tryd.prog 10 #[.slice A n cap] w fun e w' => e = .returned (.int .u32 (uv (crcMore 0#32 l))) ∧ w = w' := by
  subst hn
  exact sum_any w hT A cap _ l ho.rd hl
theorem sum_rd {w : World} (hT : Tab w) {n cap B : Nat} {A : Option Addr} {l : List UInt8} (hr : Rd w B A l) (hn : l.length = n) (hl : n ≤ 9223372036854775807) :
    Calls Tryd.prog 10 #[.slice A n cap] w fun e w' => e = .returned (.int .u32 (uv (crcMore 0#32 l))) ∧ w = w' := by
  subst hn
  exact sum_any w hT A cap _ l hr hl
theorem bytes_rd {w : World} {B n cap : Nat} {A : Option Addr} {l : List UInt8} (hr : Rd w B A l) (hB : B ≤ w.heap.size) (hA : A = none → cap = 0) (hn : l.length = n) (hl : n ≤ 140737488351232) :
    Calls Tryd.prog 9 #[.slice A n cap] w fun e w' => ∃ A' cap', e = .returned (.slice A' n cap') ∧ Own w' w.heap.size (.slice A' l.length cap') l ∧ Fr (fun _ => False) w w' := by
  subst hn
  exact bytes_any w A cap l (hr.more hB) hA hl

set_option maxHeartbeats 400000 in
theorem rzeros_any (w : World) (s : W32) (z : Int) :
    Calls Tryd.prog 15 #[.int .u32 (uv s), .int .i64 z] w fun e w' => e = .returned (.int .u32 (uv (crcMore s (zeros (zn z))))) ∧ Fr (fun _ => False) w w' := by
  have hzn : zn z ≤ 65536 := by unfold zn; omega
  obtain ⟨w1, hmk, ho, hF, _⟩ := made_at w (zn z) (by omega)
  have hm := rmore_any w1 s (some ⟨w.heap.size, 0, none⟩) (zn z) _ (zeros (zn z)) ho.rd (by rw [zeros_length]; omega)
  rw [zeros_length] at hm
  generalize uv (crcMore s (zeros (zn z))) = R at hm ⊢
  have hz3 : (zn z : Int) = max 0 (min z 65536) := by unfold zn; omega
  have hz1 : z < 0 → zn z = 0 := fun h => by unfold zn; omega
  have hz2 : 65536 < z → zn z = 65536 := fun h => by unfold zn; omega
  obtain ⟨N, hN⟩ : ∃ N : Int, N = (zn z : Int) := ⟨_, rfl⟩
  rw [← hN] at hmk hz3
  have HM := Lib.hid hm
  have HF := Lib.hid hF
  clear hm hF ho hz1 hz2
  by_cases h1 : z ≤ 0
  · obtain rfl : N = 0 := by omega
    have h1' : z ≤ 65536 := by omega
    clear hz3 hN
    go_enter Tryd.func15, Tryd.ntmps15
    go_wp2_with (go_at_call 13; refine HM.out.mono ?_; rintro e w' ⟨rfl, rfl⟩)
    go_ret
    exact ⟨rfl, HF.out⟩
  · by_cases h2 : 65536 < z
    · obtain rfl : N = 65536 := by omega
      clear hz3 hN
      go_enter Tryd.func15, Tryd.ntmps15
      go_wp2_with (go_at_call 13; refine HM.out.mono ?_; rintro e w' ⟨rfl, rfl⟩)
      go_ret
      exact ⟨rfl, HF.out⟩
    · have h1' : 0 < z := by omega
      have h2' : z ≤ 65536 := by omega
      obtain rfl : N = z := by omega
      clear hz3 hN
      go_enter Tryd.func15, Tryd.ntmps15
      go_wp2_with (go_at_call 13; refine HM.out.mono ?_; rintro e w' ⟨rfl, rfl⟩)
      go_ret
      exact ⟨rfl, HF.out⟩

set_option maxHeartbeats 400000 in
theorem rflip_bad (w : World) (s n k x : Int) (h : flipBad n k) :
    Calls Tryd.prog 19 #[.int .u32 s, .int .i64 n, .int .i64 k, .int .u8 x] w fun e w' => e = .returned (.tuple #[.int .u32 0, .int .i64 2]) ∧ w = w' := by
  by_cases h1 : 65536 < n
  · clear h
    go_enter Tryd.func19, Tryd.ntmps19
    go_wp2_with fail
    go_ret2
    exact ⟨rfl, rfl⟩
  · by_cases h2 : k < 0
    · have h1' : n ≤ 65536 := by omega
      clear h
      go_enter Tryd.func19, Tryd.ntmps19
      go_wp2_with fail
      go_ret2
      exact ⟨rfl, rfl⟩
    · have h1' : n ≤ 65536 := by omega
      have h2' : 0 ≤ k := by omega
      have h3 : n ≤ k := by unfold flipBad at h; omega
      clear h
      go_enter Tryd.func19, Tryd.ntmps19
      go_wp2_with fail
      go_ret2
      exact ⟨rfl, rfl⟩

theorem xor_twice (s c d : W32) : s ^^^ c ^^^ (c ^^^ d) = s ^^^ d := by
  have : s ^^^ c ^^^ (c ^^^ d) = s ^^^ d ^^^ (c ^^^ c) := by ac_rfl
  rw [this, BitVec.xor_self, BitVec.xor_zero]

set_option maxHeartbeats 400000 in
theorem rflip_ok (w : World) (s : W32) (n k : Nat) (x : UInt8) (hk : k < n) (hn : n ≤ 65536) :
    Calls Tryd.prog 19 #[.int .u32 (uv s), .int .i64 n, .int .i64 k, .int .u8 (x.toNat : Int)] w fun e w' => e = .returned (.tuple #[.int .u32 (uv (s ^^^ delta n k x)), .int .i64 0]) ∧ Fr (fun _ => False) w w' := by
  obtain ⟨w1, hmk, ho, hF, hlt⟩ := made_at w n (by omega)
  have hlk : k < (zeros n).length := by rw [zeros_length]; exact hk
  have hs1 := rsum_own ho (zeros_length n) (by omega)
  obtain ⟨g, hg, hbase, _, hc, hf, hset⟩ := ho.at_ hlk
  cases hg
  have ho2 := hset x
  have hs2 := rsum_own ho2 (by rw [List.length_set, zeros_length]) (by omega)
  have hz : (zeros n)[k] = 0 := by simp [zeros]
  have hx : (zeros n).set k x = (zeros n).set k ((zeros n)[k] ^^^ x) := by rw [hz, UInt8.zero_xor]
  rw [hx, crc_flip 0#32 x hlk, zeros_length] at hs2
  have r1 := bits_xor s (crcMore 0#32 (zeros n))
  have r2 := bits_xor (s ^^^ crcMore 0#32 (zeros n)) (crcMore 0#32 (zeros n) ^^^ delta n k x)
  rw [xor_twice] at r2
  have HF := Lib.hid (hF.setCell (p := ⟨w.heap.size, k, none⟩) (Or.inr hbase) (.int .u8 (x.toNat : Int)))
  have HS1 := Lib.hid hs1
  have HS2 := Lib.hid hs2
  obtain ⟨X, hX⟩ : ∃ X : Int, X = (x.toNat : Int) := ⟨_, rfl⟩
  rw [← hX] at HF HS2 ⊢
  have hi1 : (0 : Int) ≤ (k : Int) := by omega
  have hi2 : (k : Int) < n := by omega
  generalize (zeros n)[k] = y at hc
  clear hs1 hs2 hset ho ho2 hz hx hlk hF hX hbase
  go_enter Tryd.func19, Tryd.ntmps19
  go_wp2_with fail
  refine HS1.out.mono ?_
  rintro e w' ⟨rfl, rfl⟩
  go_wp2_with fail
  refine HS2.out.mono ?_
  rintro e w' ⟨rfl, rfl⟩
  go_wp2_with fail
  go_ret2
  exact ⟨rfl, HF.out⟩

end Go.Proofs.YtccagamldlpefaaDoor
