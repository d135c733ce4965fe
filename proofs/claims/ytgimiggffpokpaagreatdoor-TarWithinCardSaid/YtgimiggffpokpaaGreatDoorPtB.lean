/-
  What a text begins and ends with (the base's helpers); the document's Name, Check, Clean.
-/
import Derived.Test.YtgimiggffpokpaaGreatDoorPtA
namespace Go.Proofs.YtgimiggffpokpaaGreatDoor.pt
set_option maxRecDepth 100000
open Go.RowKit Go.Maps
set_option maxRecDepth 100000

/-- Does a text begin, or end, so? -/
def beginsB (l t : Tx) : Bool := decide (t.length ≤ l.length) && decide (l.take t.length = t)
def endsB (l t : Tx) : Bool := decide (t.length ≤ l.length) && decide (l.drop (l.length - t.length) = t)
set_option maxHeartbeats 2000000 in
theorem bbegins (w : World) (s t : ByteArray) : Calls Tryz.prog 7 #[.string s, .string t] w fun e w' => e = .returned (.bool (beginsB s.toList t.toList)) ∧ w = w' := by
  have HE := tx_ext s 0 t.size
  by_cases h1 : t.size ≤ s.size
  · obtain ⟨X, hX⟩ : ∃ X, X = s.extract 0 t.size := ⟨_, rfl⟩
    have hXl : X.toList = s.toList.take t.size := by rw [hX, HE, tx_toL, List.drop_zero, Nat.sub_zero]
    by_cases h2 : X.toList = t.toList
    · have HV := Lib.hid (show beginsB s.toList t.toList = true by unfold beginsB; rw [toL_len, toL_len, decide_eq_true h1, ← hXl, decide_eq_true h2]; rfl)
      rw [HV.out]
      have hxe : s.extract 0 t.size = t := by rw [← hX, ← tx_of X, h2, tx_of]
      clear HE hX hXl h2
      go_enter Tryz.func7, Tryz.ntmps7
      go_wp2_with fail
      go_ret
      exact ⟨rfl, rfl⟩
    · have HV := Lib.hid (show beginsB s.toList t.toList = false by unfold beginsB; rw [← toL_len t] at hXl; rw [← hXl, decide_eq_false h2, Bool.and_false])
      rw [HV.out]
      have hne : (X.toList == t.toList) = false := beq_eq_false_iff_ne.2 h2
      rw [hX] at hne
      clear HE hXl h2
      go_enter Tryz.func7, Tryz.ntmps7
      go_wp2_with fail
      go_ret
      exact ⟨rfl, rfl⟩
  · have HV := Lib.hid (show beginsB s.toList t.toList = false by unfold beginsB; rw [toL_len, toL_len, decide_eq_false h1]; rfl)
    rw [HV.out]
    have h3 : ¬ (t.size : Int) ≤ (s.size : Int) := by omega
    clear HE
    go_enter Tryz.func7, Tryz.ntmps7
    go_wp2_with fail
    go_ret
    exact ⟨rfl, rfl⟩
theorem ch_cases (b : UInt8) : ((b.toNat : Int) < 33 ∧ chT b = false) ∨ (¬ (b.toNat : Int) < 33 ∧ 126 < (b.toNat : Int) ∧ chT b = false) ∨ (¬ (b.toNat : Int) < 33 ∧ ¬ 126 < (b.toNat : Int) ∧ (b.toNat : Int) = 47 ∧ chT b = false) ∨ (¬ (b.toNat : Int) < 33 ∧ ¬ 126 < (b.toNat : Int) ∧ ((b.toNat : Int) == 47) = false ∧ chT b = true) := by
  by_cases h1 : (b.toNat : Int) < 33
  · exact Or.inl ⟨h1, by unfold chT; rw [decide_eq_false (by omega)]; rfl⟩
  by_cases h2 : 126 < (b.toNat : Int)
  · exact Or.inr (Or.inl ⟨h1, h2, by unfold chT; rw [decide_eq_false (p := b.toNat ≤ 126) (by omega), Bool.and_false, Bool.false_and]⟩)
  by_cases h3 : (b.toNat : Int) = 47
  · have : b = 47 := UInt8.toNat_inj.1 (by show b.toNat = 47; omega)
    exact Or.inr (Or.inr (Or.inl ⟨h1, h2, h3, by rw [this]; rfl⟩))
  · have : b ≠ 47 := fun e => h3 (by rw [e]; rfl)
    exact Or.inr (Or.inr (Or.inr ⟨h1, h2, beq_eq_false_iff_ne.2 h3, by unfold chT; rw [decide_eq_true (p := 33 ≤ _) (by omega), decide_eq_true (p := b.toNat ≤ 126) (by omega), decide_eq_true (p := b ≠ 47) this]; rfl⟩))
def ChTo (s : ByteArray) (k : Nat) : Prop := (s.toList.take k).all chT = true
theorem ChTo.next {s : ByteArray} {k : Nat} (h : ChTo s k) (hk : k < s.size) (hc : chT s[k] = true) : ChTo s (k + 1) := by
  unfold ChTo
  rw [List.take_add_one, toL_get s k hk, List.all_append]
  unfold ChTo at h
  rw [h]
  simp [hc]
theorem ChTo.all {s : ByteArray} (h : ChTo s s.size) : s.toList.all chT = true := by
  unfold ChTo at h
  rwa [List.take_of_length_le (by rw [toL_len]; exact Nat.le_refl _)] at h
theorem nm_no {s : ByteArray} {k : Nat} (hk : k < s.size) (hc : chT s[k] = false) : nmT s.toList = false := by
  unfold nmT
  rw [show s.toList.all chT = false from List.all_eq_false.2 ⟨s[k], List.mem_of_getElem? (toL_get s k hk), by rw [hc]; simp⟩]
  rfl
/-- What is asked behind the letters. -/
def NmEnd (s : ByteArray) : Prop :=
  (s.toList = [] ∧ nmT s.toList = false) ∨ (s.toList ≠ [] ∧ 32 < s.size ∧ nmT s.toList = false) ∨ (s.toList ≠ [] ∧ s.size ≤ 32 ∧ s.toList = [46] ∧ nmT s.toList = false) ∨ (s.toList ≠ [] ∧ s.size ≤ 32 ∧ s.toList ≠ [46] ∧ s.toList = [46, 46] ∧ nmT s.toList = false) ∨ (s.toList ≠ [] ∧ s.size ≤ 32 ∧ s.toList ≠ [46] ∧ s.toList ≠ [46, 46] ∧ nmT s.toList = true)
theorem nm_end {s : ByteArray} (h : s.toList.all chT = true) : NmEnd s := by
  unfold NmEnd nmT
  rw [h, toL_len]
  by_cases h0 : s.toList = []
  · exact Or.inl ⟨h0, by rw [decide_eq_false (p := s.toList ≠ []) (by simp [h0])]; rfl⟩
  by_cases h1 : s.size ≤ 32
  · by_cases h2 : s.toList = [46]
    · exact Or.inr (Or.inr (Or.inl ⟨h0, h1, h2, by rw [decide_eq_false (p := s.toList ≠ [46]) (by simp [h2])]; simp⟩))
    by_cases h3 : s.toList = [46, 46]
    · exact Or.inr (Or.inr (Or.inr (Or.inl ⟨h0, h1, h2, h3, by rw [decide_eq_false (p := s.toList ≠ [46, 46]) (by simp [h3])]; simp⟩)))
    · exact Or.inr (Or.inr (Or.inr (Or.inr ⟨h0, h1, h2, h3, by rw [decide_eq_true (p := s.toList ≠ []) h0, decide_eq_true h1, decide_eq_true (p := s.toList ≠ [46]) h2, decide_eq_true (p := s.toList ≠ [46, 46]) h3]; rfl⟩)))
  · exact Or.inr (Or.inl ⟨h0, by omega, by rw [decide_eq_false h1]; simp⟩)
end Go.Proofs.YtgimiggffpokpaaGreatDoor.pt
