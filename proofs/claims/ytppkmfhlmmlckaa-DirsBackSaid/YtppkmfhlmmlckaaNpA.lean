/-
  The program's own Check, isInode and follows.
-/
import Derived.Test.YtppkmfhlmmlckaaNmE
namespace Go.Proofs.Ytppkmfhlmmlckaa.nm
set_option maxRecDepth 100000
open Go.RowKit Go.Maps

theorem inName_any (w : World) (b : UInt8) : Calls Try.prog 31 #[.int .u8 b.toNat] w fun e w' => e = .returned (.bool (chB b)) ∧ w = w' := by
  by_cases h1 : (32 : Int) < b.toNat
  · by_cases h2 : (b.toNat : Int) ≤ 126
    · by_cases h3 : (b.toNat : Int) = 47
      · rw [show chB b = false by unfold chB; rw [decide_eq_false (p := (b.toNat : Int) ≠ 47) (by omega), Bool.and_false]]
        go_enter Try.func31, Try.ntmps31
        go_wp2_with fail
        go_ret
        exact ⟨rfl, rfl⟩
      · rw [show chB b = true by unfold chB; rw [decide_eq_true (p := (33 : Int) ≤ _) (by omega), decide_eq_true (p := (b.toNat : Int) ≤ 126) (by omega), decide_eq_true (p := (b.toNat : Int) ≠ 47) h3]; rfl]
        have h3' : ((b.toNat : Int) != 47) = true := by rw [bne_iff_ne]; exact h3
        go_enter Try.func31, Try.ntmps31
        go_wp2_with fail
        go_ret
        exact ⟨rfl, rfl⟩
    · rw [show chB b = false by unfold chB; rw [decide_eq_false (p := (b.toNat : Int) ≤ 126) (by omega), Bool.and_false, Bool.false_and]]
      go_enter Try.func31, Try.ntmps31
      go_wp2_with fail
      go_ret
      exact ⟨rfl, rfl⟩
  · rw [show chB b = false by unfold chB; rw [decide_eq_false (by omega)]; rfl]
    go_enter Try.func31, Try.ntmps31
    go_wp2_with fail
    go_ret
    exact ⟨rfl, rfl⟩

set_option maxHeartbeats 1000000 in
theorem pcheck (w : World) (s : ByteArray) (hs : s.size ≤ maxLen) : Calls Try.prog 16 #[.string s] w fun e w' => e = .returned (.int .i64 (chkZ s)) ∧ w = w' := by
  unfold maxLen at hs
  by_cases h0 : s.toList = []
  · rw [chkZ_no (by unfold nmB; rw [h0]; rfl)]
    go_enter Try.func16, Try.ntmps16
    go_wp2_with fail
    go_ret
    exact ⟨rfl, rfl⟩
  by_cases h1 : (32 : Int) < s.size
  · rw [chkZ_no (by unfold nmB; rw [decide_eq_false (p := s.size ≤ 32) (by omega), Bool.and_false, Bool.false_and, Bool.false_and, Bool.false_and])]
    go_enter Try.func16, Try.ntmps16
    go_wp2_with fail
    go_ret
    exact ⟨rfl, rfl⟩
  have h1' : (s.size : Int) ≤ 32 := by omega
  by_cases h2 : s.toList = [46]
  · rw [chkZ_no (by unfold nmB; rw [h2, decide_eq_false (p := [46] ≠ [46]) (by simp), Bool.and_false, Bool.false_and, Bool.false_and])]
    go_enter Try.func16, Try.ntmps16
    go_wp2_with fail
    go_ret
    exact ⟨rfl, rfl⟩
  have h2' : (s.toList == [46]) = false := beq_eq_false_iff_ne.2 h2
  by_cases h3 : s.toList = [46, 46]
  · rw [chkZ_no (by unfold nmB; rw [h3, decide_eq_false (p := [46, 46] ≠ [46, 46]) (by simp), Bool.and_false, Bool.false_and])]
    have h3' : (s.toList == [46, 46]) = true := beq_iff_eq.2 h3
    go_enter Try.func16, Try.ntmps16
    go_wp2_with fail
    go_ret
    exact ⟨rfl, rfl⟩
  have h3' : (s.toList == [46, 46]) = false := beq_eq_false_iff_ne.2 h3
  have h0' : s.toList.isEmpty = false := by
    rw [Bool.eq_false_iff]
    intro h
    exact h0 (List.isEmpty_iff.1 h)
  have HN := Lib.hid (nmB_of h0 h1 h2 h3)
  obtain ⟨z, hz⟩ : ∃ z, z = chkZ s := ⟨_, rfl⟩
  have HZ := Lib.hid hz
  rw [← hz]
  clear hz
  go_enter Try.func16, Try.ntmps16
  go_wp2_with fail
  go_loop [3, 21] (fun _ i => ∃ k : Nat, k ≤ s.size ∧ i = .int .i64 k ∧ Hid (ChTo s k)) (fun _ i => s.size - (intOf i).toNat)
  case atStart => exact ⟨0, Nat.zero_le _, rfl, (show ChTo s 0 from rfl)⟩
  case round =>
    obtain ⟨k, hk, rfl, HK⟩ := hrel
    clear h0 h1 h1' h2 h2' h3 h3' h0'
    by_cases hlt : k < s.size
    · have HIN := Lib.hid (inName_any w s[k])
      cases hb : chB s[k] with
      | false =>
        rw [hb] at HIN
        have HB := Lib.hid (chkZ_no (HN.out.trans (all_no hlt hb)))
        clear hb
        go_wp2_with fail
        refine HIN.out.mono ?_
        rintro e w' ⟨rfl, rfl⟩
        go_wp2_with fail
        go_ret
        exact ⟨ret_int (by rw [HZ.out, HB.out]), rfl⟩
      | true =>
        rw [hb] at HIN
        have HB := Lib.hid (HK.out.next hlt hb)
        clear hb
        go_wp2_with fail
        refine HIN.out.mono ?_
        rintro e w' ⟨rfl, rfl⟩
        go_wp2_with fail
        go_round
        case rel => exact ⟨k + 1, by omega, by go_num, HB⟩
        case measure => simp [intOf]; omega
    · obtain rfl : k = s.size := by omega
      have HB := Lib.hid (chkZ_ok (HN.out.trans HK.out.all))
      go_wp2_with fail
      go_ret
      exact ⟨ret_int (by rw [HZ.out, HB.out]), rfl⟩
theorem pinode (w : World) (n : Int) : Calls Try.prog 33 #[.int .i64 n] w fun e w' => e = .returned (.bool (inB n)) ∧ w = w' := by
  unfold inB
  by_cases h0 : 0 ≤ n
  · rw [decide_eq_true h0, Bool.true_and]
    go_enter Try.func33, Try.ntmps33
    go_wp2_with fail
    go_ret
    exact ⟨rfl, rfl⟩
  · rw [decide_eq_false h0, Bool.false_and]
    go_enter Try.func33, Try.ntmps33
    go_wp2_with fail
    go_ret
    exact ⟨rfl, rfl⟩
end Go.Proofs.Ytppkmfhlmmlckaa.nm
