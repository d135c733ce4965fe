/-
  One byte taken in: the program's step and the document's.
-/
import Derived.Test.YtccagamldlpefaaDoorProg
import Derived.Test.YtccagamldlpefaaDoorCrcM
import Derived.Test.YtccagamldlpefaaDoorMem
import Derived.Laws.BitsAllLaws
import Derived.Laws.BitsLemmas
import Derived.Deep.LoopGhost
import Derived.LoopTactic
namespace Go.Proofs.YtccagamldlpefaaDoor
open Go.RowKit

/-- A register as a number. -/
def uv (c : W32) : Int := (c.toNat : Int)
theorem uv_lo (c : W32) : 0 ≤ uv c := by unfold uv; omega
theorem uv_hi (c : W32) : uv c ≤ 4294967295 := by unfold uv; have := c.isLt; omega
theorem uv_inj {a b : W32} (h : uv a = uv b) : a = b := by
  unfold uv at h
  exact BitVec.eq_of_toNat_eq (by omega)
theorem uv_ofInt (c : W32) : BitVec.ofInt 32 (uv c) = c := by
  unfold uv
  rw [BitVec.ofInt_natCast, BitVec.ofNat_toNat, BitVec.setWidth_eq]
theorem uv_wrap (c : W32) : IntKind.u32.wrap (uv c) = uv c := by
  rw [IntKind.wrap_u32]
  have := uv_lo c
  have := uv_hi c
  omega
theorem bits_xor (a b : W32) : bits .xor .u32 (uv a) (uv b) = uv (a ^^^ b) := by
  show IntKind.u32.wrap ((BitVec.ofInt 32 (uv a) ^^^ BitVec.ofInt 32 (uv b)).toNat : Int) = _
  rw [uv_ofInt, uv_ofInt]
  exact uv_wrap _
theorem bits_and15 (a : W32) : bits .and .u32 (uv a) 15 = uv (a &&& 15#32) := by
  show IntKind.u32.wrap ((BitVec.ofInt 32 (uv a) &&& BitVec.ofInt 32 15).toNat : Int) = _
  rw [uv_ofInt, show BitVec.ofInt 32 15 = 15#32 by decide]
  exact uv_wrap _
theorem uv_shr4 (a : W32) : uv a / (16 : Int) = uv (a >>> 4) := by
  unfold uv
  rw [BitVec.toNat_ushiftRight, Nat.shiftRight_eq_div_pow]
  omega
theorem uv_half (a : W32) : uv a / (2 : Int) = uv (a >>> 1) := by
  unfold uv
  rw [BitVec.toNat_ushiftRight, Nat.shiftRight_eq_div_pow]
  omega
theorem uv_w8 (b : UInt8) : uv (w8 b) = (b.toNat : Int) := by
  unfold uv w8
  have := b.toNat_lt
  rw [BitVec.toNat_ofNat, Nat.mod_eq_of_lt (by omega)]
theorem uv_not (a : W32) : bits .xor .u32 4294967295 (uv a) = uv (~~~ a) := by
  have h := bits_xor (BitVec.allOnes 32) a
  rw [BitVec.allOnes_xor] at h
  exact h
theorem uv_bit0 (a : W32) : uv a % (2 : Int) = if a.getLsbD 0 then 1 else 0 := by
  unfold uv
  have h : a.getLsbD 0 = a.toNat.testBit 0 := rfl
  rw [h, Nat.testBit_zero]
  by_cases h2 : a.toNat % 2 = 1
  · simp [h2]; omega
  · simp [h2]; omega

/-- The table's sixteen cells. -/
def Tab (w : World) : Prop := ∀ j, j < 16 → w.cell? ⟨0, j, none⟩ = some (.int .u32 ((tab.getD j 0 : Nat) : Int))
theorem Tab.fr {w w' : World} (h : Tab w) (hF : Fr (fun _ => False) w w') : Tab w' := fun j hj => by
  have hc := h j hj
  rw [World.cell?_of_block (hF.block _ (by
    apply Decidable.byContradiction
    intro hn
    rw [World.cell?, Array.getElem?_eq_none (by omega)] at hc
    cases hc) id)]
  exact hc
theorem Tab.at_ {w : World} (h : Tab w) (c : W32) : w.cell? ⟨0, (c &&& 15#32).toNat, none⟩ = some (.int .u32 (uv (tabAt (c &&& 15#32)))) := by
  rw [h _ (low_lt c)]
  have hb : ∀ i : Fin 16, tab.getD i.val 0 < 4294967296 := by decide
  have := hb ⟨_, low_lt c⟩
  unfold uv tabAt
  rw [BitVec.toNat_ofNat, Nat.mod_eq_of_lt (by simpa using this)]

set_option maxHeartbeats 400000 in
theorem step_core (w : World) (C X C1 S1 T1 C2 S2 T2 C3 : Int) (N1 N2 : Nat) (hX : 0 ≤ X) (hX2 : X ≤ 255)
    (r1 : bits .xor .u32 C X = C1) (r2 : C1 / 16 = S1) (r3 : bits .and .u32 C1 15 = (N1 : Int)) (h1 : N1 < 16) (c1 : w.cell? ⟨0, N1, none⟩ = some (.int .u32 T1))
    (r4 : bits .xor .u32 S1 T1 = C2) (r5 : C2 / 16 = S2) (r6 : bits .and .u32 C2 15 = (N2 : Int)) (h2 : N2 < 16) (c2 : w.cell? ⟨0, N2, none⟩ = some (.int .u32 T2)) (r7 : bits .xor .u32 S2 T2 = C3) :
    Calls Tryd.prog 21 #[.int .u32 C, .int .u8 X] w fun e w' => e = .returned (.int .u32 C3) ∧ w = w' := by
  go_enter Tryd.func21, Tryd.ntmps21
  go_wp2
  go_ret
  exact ⟨rfl, rfl⟩

theorem step_any (w : World) (hT : Tab w) (c : W32) (b : UInt8) :
    Calls Tryd.prog 21 #[.int .u32 (uv c), .int .u8 (b.toNat : Int)] w fun e w' => e = .returned (.int .u32 (uv (step c b))) ∧ w = w' := by
  have hb := b.toNat_lt
  refine step_core w (uv c) (b.toNat : Int) (uv (c ^^^ w8 b)) (uv ((c ^^^ w8 b) >>> 4)) (uv (tabAt ((c ^^^ w8 b) &&& 15#32))) (uv (four (c ^^^ w8 b))) (uv (four (c ^^^ w8 b) >>> 4)) (uv (tabAt (four (c ^^^ w8 b) &&& 15#32))) _
    ((c ^^^ w8 b) &&& 15#32).toNat (four (c ^^^ w8 b) &&& 15#32).toNat (by omega) (by omega) (by rw [← uv_w8]; exact bits_xor _ _) (uv_shr4 _) (bits_and15 _) (low_lt _) (hT.at_ _) (by rw [four_tab (c ^^^ w8 b)]; exact bits_xor _ _) (uv_shr4 _) (bits_and15 _) (low_lt _) (hT.at_ _) ?_
  rw [bits_xor, ← four_tab]
  rfl

def iter : Nat → W32 → W32
  | 0, c => c
  | k + 1, c => one (iter k c)
theorem one_of_bit {c : W32} (h : c.getLsbD 0 = true) : one c = (c >>> 1) ^^^ poly := by unfold one; rw [h]; rfl
theorem one_of_not {c : W32} (h : c.getLsbD 0 = false) : one c = c >>> 1 := by
  unfold one
  rw [h]
  exact BitVec.xor_zero
theorem bits_poly (a : W32) : bits .xor .u32 (uv a) 3988292384 = uv (a ^^^ poly) := bits_xor a poly

set_option maxHeartbeats 400000 in
theorem rstep_any (w : World) (c : W32) (b : UInt8) :
    Calls Tryd.prog 22 #[.int .u32 (uv c), .int .u8 (b.toNat : Int)] w fun e w' => e = .returned (.int .u32 (uv (step c b))) ∧ w = w' := by
  have hb := b.toNat_lt
  obtain ⟨x, hx⟩ : ∃ x : Int, x = (b.toNat : Int) := ⟨_, rfl⟩
  have r1 : bits .xor .u32 (uv c) x = uv (c ^^^ w8 b) := by rw [hx, ← uv_w8]; exact bits_xor _ _
  rw [← hx]
  have hx0 : 0 ≤ x := by omega
  have hx1 : x ≤ 255 := by omega
  have he : step c b = iter 8 (c ^^^ w8 b) := rfl
  rw [he]
  generalize c ^^^ w8 b = d at r1
  obtain ⟨D, hD⟩ : ∃ D, D = uv d := ⟨_, rfl⟩
  rw [← hD] at r1
  have HD := Lib.hid hD
  clear he hx hb hD
  go_enter Tryd.func22, Tryd.ntmps22
  go_wp2_with fail
  go_loop [0, 5] (fun c i => ∃ (k : Nat) (C : Int), k ≤ 8 ∧ i = .int .i64 k ∧ c = .int .u32 C ∧ Hid (C = uv (iter k d))) (fun _ i => 8 - (intOf i).toNat)
  case atStart => exact ⟨0, D, Nat.zero_le _, rfl, rfl, HD⟩
  case round =>
    obtain ⟨k, C, hk, rfl, rfl, HC⟩ := hrel
    clear r1
    have hlo : 0 ≤ C := by have h1 := HC.out; have := uv_lo (iter k d); omega
    have hhi : C ≤ 4294967295 := by have h1 := HC.out; have := uv_hi (iter k d); omega
    by_cases hlt : k < 8
    · have hm := uv_bit0 (iter k d)
      have hh := uv_half (iter k d)
      have hp := bits_poly (iter k d >>> 1)
      rw [← hh] at hp
      rw [← HC.out] at hm hh hp
      cases hbit : (iter k d).getLsbD 0
      · rw [hbit, if_neg (by decide)] at hm
        have t1 : ((C % 2) == 1) = false := by rw [hm]; decide
        have HN := Lib.hid (show C / 2 = uv (iter (k + 1) d) by rw [hh]; exact (congrArg uv (one_of_not hbit)).symm)
        clear hm hh hp hbit
        go_wp2
        go_round
        case rel => exact ⟨k + 1, _, by omega, by go_num, rfl, HN⟩
        case measure => simp [intOf]; omega
      · rw [hbit, if_pos rfl] at hm
        have t1 : ((C % 2) == 1) = true := by rw [hm]; decide
        obtain ⟨E, hE⟩ : ∃ E, E = uv (iter (k + 1) d) := ⟨_, rfl⟩
        have hp' : bits .xor .u32 (C / 2) 3988292384 = E := by rw [hp, hE]; exact (congrArg uv (one_of_bit hbit)).symm
        have HE := Lib.hid hE
        clear hm hh hp hbit hE
        go_wp2
        go_round
        case rel => exact ⟨k + 1, E, by omega, by go_num, rfl, HE⟩
        case measure => simp [intOf]; omega
    · have hk8 : k = 8 := by omega
      subst hk8
      go_wp2
      go_ret
      have h := HC.out
      subst h
      exact ⟨rfl, rfl⟩

end Go.Proofs.YtccagamldlpefaaDoor
