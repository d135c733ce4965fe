/-
  Names: which texts are names; the document's Check.
-/
import Derived.Test.YtppkmfhlmmlckaaBy
import Derived.Lib.Strings
namespace Go.Proofs.Ytppkmfhlmmlckaa.nm
set_option maxRecDepth 100000
open Go.RowKit Go.Maps
set_option maxRecDepth 100000

/-- May this byte stand in a name? -/
def chB (b : UInt8) : Bool := decide (33 ≤ (b.toNat : Int)) && decide ((b.toNat : Int) ≤ 126) && decide ((b.toNat : Int) ≠ 47)
def nmB (s : ByteArray) : Bool := decide (s.toList ≠ []) && decide (s.size ≤ 32) && decide (s.toList ≠ [46]) && decide (s.toList ≠ [46, 46]) && s.toList.all chB
/-- What Check answers. -/
def chkZ (s : ByteArray) : Int := if nmB s = true then 0 else 71
theorem chkZ_ok {s : ByteArray} (h : nmB s = true) : chkZ s = 0 := if_pos h
theorem chkZ_no {s : ByteArray} (h : nmB s = false) : chkZ s = 71 := if_neg (by rw [h]; simp)
theorem toL (s : ByteArray) : s.toList = s.data.toList := ByteArray.toList_eq s
theorem toL_length (s : ByteArray) : s.toList.length = s.size := by rw [toL]; rfl
theorem toL_get (s : ByteArray) (k : Nat) (h : k < s.size) : s.toList[k]? = some s[k] := by
  have hl : k < s.toList.length := by rw [toL_length]; exact h
  rw [List.getElem?_eq_getElem hl]
  congr 1
  have e := toL s
  simp only [e]
  rfl
theorem nmB_of {s : ByteArray} (h0 : ¬ s.toList = []) (h1 : ¬ (32 : Int) < s.size) (h2 : ¬ s.toList = [46]) (h3 : ¬ s.toList = [46, 46]) : nmB s = s.toList.all chB := by
  have h1' : s.size ≤ 32 := by omega
  unfold nmB
  rw [decide_eq_true (p := s.toList ≠ []) h0, decide_eq_true h1', decide_eq_true (p := s.toList ≠ [46]) h2, decide_eq_true (p := s.toList ≠ [46, 46]) h3]
  rfl
theorem ret_int {k : IntKind} {a b : Int} (h : a = b) : Ending.returned (.int k a) = .returned (.int k b) := by rw [h]
/-- How far the bytes are held to be right. -/
def ChTo (s : ByteArray) (k : Nat) : Prop := (s.toList.take k).all chB = true
theorem ChTo.next {s : ByteArray} {k : Nat} (h : ChTo s k) (hk : k < s.size) (hc : chB s[k] = true) : ChTo s (k + 1) := by
  unfold ChTo
  rw [List.take_add_one, toL_get s k hk, List.all_append]
  unfold ChTo at h
  rw [h]
  simp [hc]
theorem ChTo.all {s : ByteArray} (h : ChTo s s.size) : s.toList.all chB = true := by
  unfold ChTo at h
  rwa [List.take_of_length_le (by rw [toL_length]; exact Nat.le_refl _)] at h
theorem all_no {s : ByteArray} {k : Nat} (hk : k < s.size) (hc : chB s[k] = false) : s.toList.all chB = false := by
  rw [List.all_eq_false]
  exact ⟨s[k], List.mem_of_getElem? (toL_get s k hk), by rw [hc]; simp⟩
theorem ch_cases (b : UInt8) : ((b.toNat : Int) < 33 ∧ chB b = false) ∨ (¬ (b.toNat : Int) < 33 ∧ 126 < (b.toNat : Int) ∧ chB b = false) ∨ (¬ (b.toNat : Int) < 33 ∧ ¬ 126 < (b.toNat : Int) ∧ (b.toNat : Int) = 47 ∧ chB b = false) ∨ (¬ (b.toNat : Int) < 33 ∧ ¬ 126 < (b.toNat : Int) ∧ ((b.toNat : Int) == 47) = false ∧ chB b = true) := by
  by_cases h1 : (b.toNat : Int) < 33
  · exact Or.inl ⟨h1, by unfold chB; rw [decide_eq_false (by omega)]; rfl⟩
  by_cases h2 : 126 < (b.toNat : Int)
  · exact Or.inr (Or.inl ⟨h1, h2, by unfold chB; rw [decide_eq_false (p := (b.toNat : Int) ≤ 126) (by omega), Bool.and_false, Bool.false_and]⟩)
  by_cases h3 : (b.toNat : Int) = 47
  · exact Or.inr (Or.inr (Or.inl ⟨h1, h2, h3, by unfold chB; rw [decide_eq_false (p := (b.toNat : Int) ≠ 47) (by omega), Bool.and_false]⟩))
  · exact Or.inr (Or.inr (Or.inr ⟨h1, h2, beq_eq_false_iff_ne.2 h3, by unfold chB; rw [decide_eq_true (p := (33 : Int) ≤ _) (by omega), decide_eq_true (p := (b.toNat : Int) ≤ 126) (by omega), decide_eq_true (p := (b.toNat : Int) ≠ 47) h3]; rfl⟩))

set_option maxHeartbeats 1000000 in
theorem rcheck (w : World) (s : ByteArray) (hs : s.size ≤ maxLen) : Calls Try.prog 17 #[.string s] w fun e w' => e = .returned (.int .i64 (chkZ s)) ∧ w = w' := by
  unfold maxLen at hs
  by_cases h0 : s.toList = []
  · rw [chkZ_no (by unfold nmB; rw [h0]; rfl)]
    go_enter Try.func17, Try.ntmps17
    go_wp2_with fail
    go_ret
    exact ⟨rfl, rfl⟩
  by_cases h1 : (32 : Int) < s.size
  · rw [chkZ_no (by unfold nmB; rw [decide_eq_false (p := s.size ≤ 32) (by omega), Bool.and_false, Bool.false_and, Bool.false_and, Bool.false_and])]
    go_enter Try.func17, Try.ntmps17
    go_wp2_with fail
    go_ret
    exact ⟨rfl, rfl⟩
  have h1' : (s.size : Int) ≤ 32 := by omega
  by_cases h2 : s.toList = [46]
  · rw [chkZ_no (by unfold nmB; rw [h2, decide_eq_false (p := [46] ≠ [46]) (by simp), Bool.and_false, Bool.false_and, Bool.false_and])]
    go_enter Try.func17, Try.ntmps17
    go_wp2_with fail
    go_ret
    exact ⟨rfl, rfl⟩
  have h2' : (s.toList == [46]) = false := beq_eq_false_iff_ne.2 h2
  by_cases h3 : s.toList = [46, 46]
  · rw [chkZ_no (by unfold nmB; rw [h3, decide_eq_false (p := [46, 46] ≠ [46, 46]) (by simp), Bool.and_false, Bool.false_and])]
    have h3' : (s.toList == [46, 46]) = true := beq_iff_eq.2 h3
    go_enter Try.func17, Try.ntmps17
    go_wp2_with fail
    go_ret
    exact ⟨rfl, rfl⟩
  have h3' : (s.toList == [46, 46]) = false := beq_eq_false_iff_ne.2 h3
  have h0' : s.toList.isEmpty = false := by
    rw [Bool.eq_false_iff]
    intro h
    exact h0 (List.isEmpty_iff.1 h)
  have HN := Lib.hid (nmB_of h0 h1 h2 h3)
  obtain ⟨z, hz⟩ : ∃ z, z = chkZ s := ⟨_, rfl⟩
  have HZ := Lib.hid hz
  rw [← hz]
  clear hz
  go_enter Try.func17, Try.ntmps17
  go_wp2_with fail
  go_loop [3] (fun i => ∃ k : Nat, k ≤ s.size ∧ i = .int .i64 k ∧ Hid (ChTo s k)) (fun i => s.size - (intOf i).toNat)
  case atStart => exact ⟨0, Nat.zero_le _, rfl, (show ChTo s 0 from rfl)⟩
  case round =>
    obtain ⟨k, hk, rfl, HK⟩ := hrel
    clear h0 h1 h1' h2 h2' h3 h3' h0'
    by_cases hlt : k < s.size
    · obtain ⟨c, hc⟩ : ∃ c, c = s[k] := ⟨_, rfl⟩
      rcases ch_cases s[k] with ⟨c1, hb⟩ | ⟨c1, c2, hb⟩ | ⟨c1, c2, c3, hb⟩ | ⟨c1, c2, c3, hb⟩
      · have HB := Lib.hid (chkZ_no (HN.out.trans (all_no hlt hb)))
        clear hb hc
        go_wp2_with fail
        go_ret
        exact ⟨ret_int (by rw [HZ.out, HB.out]), rfl⟩
      · have HB := Lib.hid (chkZ_no (HN.out.trans (all_no hlt hb)))
        clear hb hc
        go_wp2_with fail
        go_ret
        exact ⟨ret_int (by rw [HZ.out, HB.out]), rfl⟩
      · have HB := Lib.hid (chkZ_no (HN.out.trans (all_no hlt hb)))
        clear hb hc
        go_wp2_with fail
        go_ret
        exact ⟨ret_int (by rw [HZ.out, HB.out]), rfl⟩
      · have HB := Lib.hid (HK.out.next hlt hb)
        clear hb hc
        go_wp2_with fail
        go_round
        case rel => exact ⟨k + 1, by omega, by go_num, HB⟩
        case measure => simp [intOf]; omega
    · obtain rfl : k = s.size := by omega
      have HB := Lib.hid (chkZ_ok (HN.out.trans HK.out.all))
      go_wp2_with fail
      go_ret
      exact ⟨ret_int (by rw [HZ.out, HB.out]), rfl⟩
end Go.Proofs.Ytppkmfhlmmlckaa.nm
