/-
  The document's number, zero; bytes of the call's own.
-/
import Derived.Test.YtcdhakfmljjaoaaGreatDoorFtU
import Derived.Test.YtcdhakfmljjaoaaGreatDoorGzQ
import Derived.Test.YtcdhakfmljjaoaaGreatDoorJL
import Derived.Test.YtcdhakfmljjaoaaGreatDoorBitsP
import Derived.Lib.AppendStr
import Derived.Laws.AppendOwnNone
namespace Go.Proofs.YtcdhakfmljjaoaaGreatDoor.gz
set_option maxRecDepth 100000
open Go.RowKit Go.Maps Go.Proofs.YtcdhakfmljjaoaaGreatDoor.fl Go.Proofs.YtcdhakfmljjaoaaGreatDoor.cd Go.Proofs.YtcdhakfmljjaoaaGreatDoor.ft
set_option maxRecDepth 100000

theorem numL_snoc : ∀ (k n : Nat), numL n (k + 1) = numL n k ++ [UInt8.ofNat (n / 256 ^ k)]
  | 0, n => by
    rw [numL, numL, numL, Nat.pow_zero, Nat.div_one, List.nil_append]
    congr 1
    apply UInt8.toNat_inj.1
    rw [UInt8.toNat_ofNat', UInt8.toNat_ofNat']
    omega
  | k + 1, n => by
    rw [numL, numL_snoc k (n / 256), numL, List.cons_append, Nat.div_div_eq_div_mul, Nat.pow_succ, Nat.mul_comm 256]
theorem putL_numL (l : By) (n : Nat) : ∀ k, k ≤ l.length → putL l 0 n k = numL n k ++ l.drop k
  | 0, _ => by rw [putL, numL, List.drop_zero, List.nil_append]
  | k + 1, h => by
    rw [putL, putL_numL l n k (by omega), numL_snoc, Nat.zero_add, List.set_append_right _ _ (Nat.le_of_eq (numL_len k n)), numL_len, Nat.sub_self, List.append_assoc, List.drop_eq_getElem_cons (show k < l.length by omega)]
    rfl
set_option maxHeartbeats 1000000 in
theorem rnumber (w : World) (n k : Nat) (h1 : 1 ≤ k) (h4 : k ≤ 4) (hn : n < 256 ^ k) : Calls Tryz.prog 25 #[.int .i64 (n : Int), .int .i64 (k : Int)] w (NewB w (numL n k)) := by
  have hp : 256 ^ k ≤ 4294967296 := by
    have : 256 ^ k ≤ 256 ^ 4 := Nat.pow_le_pow_right (by omega) h4
    exact this
  have hmk := run_make_bytes k (by omega) w
  have ho := own_zb w k (by omega)
  have hz : (List.replicate k (0 : UInt8)).length = k := List.length_replicate
  rw [hz] at ho
  have hr : Rd _ _ _ _ := Own.rd (l := List.replicate k (0 : UInt8)) (by rw [hz]; exact ho)
  have hP := rput_at _ _ k k _ 0 k n (List.replicate k 0) hr hz (Nat.le_refl _) (fun e => by cases e) (by omega) h1 h4 (by omega) (by omega)
  have hg : goesB (n : Int) k = true := (goesB_iff _ _).2 ⟨by omega, by omega⟩
  have hl : putL (List.replicate k (0 : UInt8)) 0 n k = numL n k := by
    rw [putL_numL _ _ _ (by rw [hz]; exact Nat.le_refl _), List.drop_of_length_le (by rw [hz]; exact Nat.le_refl _), List.append_nil]
  rw [hg, hl] at hP
  have HP := Lib.hid hP
  have HF := Lib.hid ((Fr.refl (fun _ => False) w).alloc (.cells (zb k) 5))
  have hk0 : (0 : Int) ≤ (k : Int) := by omega
  clear hP ho hr hz hg hl hp hn
  go_enter Tryz.func25, Tryz.ntmps25
  go_wp2_with fail
  refine HP.out.mono ?_
  rintro e w1 ⟨h, _⟩
  obtain ⟨A1, c1, rfl, ho1, _, hF1⟩ := h rfl
  have H1 := Lib.hid (⟨ho1, hF1⟩ : _ ∧ _)
  obtain ⟨m, hm⟩ : ∃ m, m = (numL n k).length := ⟨_, rfl⟩
  have HM := Lib.hid hm
  rw [← hm]
  clear h ho1 hF1 hm HP hmk
  go_wp2_with fail
  go_ret
  exact ⟨A1, c1, by rw [HM.out]; rfl, own_low H1.out.1 (by simp), HF.out.trans H1.out.2 (fun _ _ e => e)⟩
theorem zero_at (s : ByteArray) (k : Nat) (h : k < s.size) : s.data.toList[k]? = some (s[k]) := by
  rw [Array.getElem?_toList]
  exact Array.getElem?_eq_getElem h
set_option maxHeartbeats 1000000 in
theorem rzero (w : World) (s : ByteArray) (hs : s.size ≤ 1048576) : Calls Tryz.prog 24 #[.string s] w fun e w' => e = .returned (.bool (s.data.toList.contains 0)) ∧ w = w' := by
  obtain ⟨n, hn⟩ : ∃ n, n = s.size := ⟨_, rfl⟩
  have HN := Lib.hid hn
  rw [← hn] at hs
  obtain ⟨B, hB⟩ : ∃ B, B = s.data.toList.contains 0 := ⟨_, rfl⟩
  have HB := Lib.hid hB
  rw [← hB]
  clear hB
  go_enter Tryz.func24, Tryz.ntmps24
  go_wp2_with fail
  go_loopw [3] (fun i wr => ∃ k : Nat, k ≤ n ∧ i = .int .i64 k ∧ w = wr ∧ Hid (∀ j, j < k → s.data.toList[j]? ≠ some 0)) (fun i _ => n - (intOf i).toNat)
  case atStart => exact ⟨0, Nat.zero_le _, rfl, rfl, (show ∀ _, _ from fun j hj => by omega)⟩
  case round =>
    obtain ⟨k, hk, rfl, rfl, HK⟩ := hrel
    by_cases hlt : k < n
    · have hkz : (k : Int) < (n : Int) := by omega
      have hk0 : (0 : Int) ≤ (k : Int) := by omega
      rw [hn] at hkz
      have hks : k < s.size := by omega
      by_cases he : s[k] = 0
      · have HE := Lib.hid (show s.data.toList.contains 0 = true by
          rw [List.contains_iff_mem]
          refine List.mem_iff_getElem?.2 ⟨k, ?_⟩
          rw [zero_at s k hks, he])
        have hz : ((s[k].toNat : Int) == 0) = true := by rw [he]; rfl
        clear he
        go_wp2_with fail
        go_ret
        exact ⟨by rw [HB.out, HE.out]; rfl, rfl⟩
      · have HE := Lib.hid (show ∀ j, j < k + 1 → s.data.toList[j]? ≠ some 0 from fun j hj => by
          by_cases e : j < k
          · exact HK.out j e
          · obtain rfl : j = k := by omega
            rw [zero_at s j hks]
            exact fun e2 => he (Option.some.inj e2))
        have hz : ((s[k].toNat : Int) == 0) = false := by
          rw [beq_eq_false_iff_ne]
          intro e
          exact he (UInt8.toNat_inj.1 (by rw [show (0 : UInt8).toNat = 0 from rfl]; omega))
        clear he
        go_wp2_with fail
        go_roundw
        case rel => exact ⟨k + 1, by omega, by go_num, trivial, HE⟩
        case measure => simp [intOf]; omega
    · have hkz : ¬ (k : Int) < (n : Int) := by omega
      have HE := Lib.hid (show s.data.toList.contains 0 = false by
        rw [← Bool.not_eq_true, List.contains_iff_mem]
        intro hm
        obtain ⟨j, hj⟩ := List.mem_iff_getElem?.1 hm
        have h1 := (List.getElem?_eq_some_iff.1 hj).1
        rw [Array.length_toList] at h1
        have h2 : s.data.size = s.size := rfl
        exact HK.out j (by omega) hj)
      rw [hn] at hkz
      go_wp2_with fail
      go_ret
      exact ⟨by rw [HB.out, HE.out]; rfl, rfl⟩
end Go.Proofs.YtcdhakfmljjaoaaGreatDoor.gz
