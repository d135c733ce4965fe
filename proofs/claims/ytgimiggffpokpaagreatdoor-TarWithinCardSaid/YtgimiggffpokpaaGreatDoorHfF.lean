/-
  The program's part and mayBe.
-/
import Derived.Test.YtgimiggffpokpaaGreatDoorHfE
namespace Go.Proofs.YtgimiggffpokpaaGreatDoor.he
set_option maxRecDepth 100000
open Go.RowKit Go.Maps
set_option maxRecDepth 100000

theorem down_none {s : Bts} : ∀ n : Nat, (∀ i, i < n → spotV s i = none) → downV s n = none
  | 0, _ => rfl
  | n + 1, h => by
    rw [down_next, h n (Nat.lt_succ_self n)]
    exact down_none n (fun i hi => h i (by omega))
theorem down_some {s : Bts} {i : Nat} {q : Bts × Bts} (hi : spotV s i = some q) : ∀ n : Nat, i < n → (∀ j, i < j → j < n → spotV s j = none) → downV s n = some q
  | 0, h, _ => by omega
  | n + 1, h, k => by
    rw [down_next]
    by_cases e : i = n
    · rw [← e, hi]
    · rw [k n (by omega) (Nat.lt_succ_self n)]
      exact down_some hi n (by omega) (fun j h1 h2 => k j h1 (by omega))
theorem spot_some {s : Bts} {i : Nat} {q : Bts × Bts} (h : spotV s i = some q) : 0 < i ∧ s[i]? = some 47 ∧ i ≤ 155 ∧ 1 ≤ s.length - i - 1 ∧ s.length - i - 1 ≤ 100 := by
  unfold spotV at h
  split at h
  · assumption
  · cases h
/-- Where the program looks for a /. -/
theorem part_no {s : Bts} (h0 : 100 < s.length) (h : ∀ i, 0 < i → i < min (s.length - 1) 156 → s.length - i - 1 ≤ 100 → s[i]? ≠ some 47) : partV s = ([], [], false) := by
  have h1 : partedV s = none := by
    rw [parted_down (by intro e; rw [e] at h0; simp at h0) (by omega)]
    refine down_none _ (fun i _ => ?_)
    cases e : spotV s i with
    | none => rfl
    | some q =>
      obtain ⟨a1, a2, a3, a4, a5⟩ := spot_some e
      exact absurd a2 (h i a1 (by omega) a5)
  unfold partV
  rw [h1]
theorem part_yes {s : Bts} {i : Nat} (h0 : 100 < s.length) (hi : 0 < i) (h1 : i < min (s.length - 1) 156) (h2 : s[i]? = some 47) (h3 : s.length - i - 1 ≤ 100) (h : ∀ j, i < j → j < min (s.length - 1) 156 → s[j]? ≠ some 47) : partV s = (s.take i, s.drop (i + 1), true) := by
  have hsp : spotV s i = some (s.take i, s.drop (i + 1)) := by
    unfold spotV
    rw [if_pos ⟨hi, h2, by omega, by omega, h3⟩]
  have h4 : partedV s = some (s.take i, s.drop (i + 1)) := by
    rw [parted_down (by intro e; rw [e] at h0; simp at h0) (by omega)]
    refine down_some hsp _ (by omega) (fun j k1 k2 => ?_)
    cases e : spotV s j with
    | none => rfl
    | some q =>
      obtain ⟨a1, a2, a3, a4, a5⟩ := spot_some e
      exact absurd a2 (h j k1 (by omega))
  unfold partV
  rw [h4]
set_option maxHeartbeats 4000000 in
theorem ppart (w : World) (hT : DT w) (s : ByteArray) (hs : s.size ≤ 140737488351232) : Calls Tryz.prog 57 #[.string s] w fun e w' => e = .returned (.tuple #[.string (tx (partV s.data.toList).1), .string (tx (partV s.data.toList).2.1), .bool (partV s.data.toList).2.2]) ∧ Calm w w' := by
  have hsl : s.data.toList.length = s.size := Array.length_toList
  have HZ0 := Lib.hid (psize w hT 0 0 100 rfl)
  have HZX := Lib.hid (psize w hT 10 345 155 rfl)
  have HZ0 := Lib.hid (show Calls Tryz.prog 82 #[.int .i64 0] w fun e w' => e = .returned (.int .i64 100) ∧ w = w' from HZ0.out)
  have HZX := Lib.hid (show Calls Tryz.prog 82 #[.int .i64 10] w fun e w' => e = .returned (.int .i64 155) ∧ w = w' from HZX.out)
  obtain ⟨S, hS⟩ : ∃ S, S = s.data.toList := ⟨_, rfl⟩
  rw [← hS] at hsl ⊢
  obtain ⟨V, hV⟩ : ∃ V, V = partV S := ⟨_, rfl⟩
  rw [← hV]
  have HS := Lib.hid (⟨hS, hsl, hV⟩ : _ ∧ _ ∧ _)
  clear hT
  by_cases h1 : s.size ≤ 100
  · by_cases h0 : s = ⟨#[]⟩
    · have HV := Lib.hid (show V = ([], [], false) from by rw [hV, hS, h0]; rfl)
      clear hsl hV hS hs h1
      subst h0
      go_enter Tryz.func57, Tryz.ntmps57
      go_wp2_with fail
      refine HZ0.out.mono ?_
      rintro e w' ⟨rfl, rfl⟩
      go_wp2_with fail
      go_ret3
      rw [HV.out]
      exact ⟨rfl, Calm.refl _⟩
    · have hne : S ≠ [] := fun e => h0 (by
        apply ByteArray.ext
        exact Array.toList_inj.1 (hS ▸ e))
      have hseq : (s.toList == []) = false := by rw [toL, ← hS]; exact beq_eq_false_iff_ne.2 hne
      have hseq2 : (s.toList == (⟨#[]⟩ : ByteArray).toList) = false := by rw [show (⟨#[]⟩ : ByteArray).toList = [] from tx_toL []]; exact hseq
      have HV := Lib.hid (show V = ([], S, true) from by rw [hV]; unfold partV partedV; rw [if_neg hne, if_pos (by omega)])
      have HT := Lib.hid (show tx S = s from by rw [hS])
      clear hsl hV hS hs hne h0
      go_enter Tryz.func57, Tryz.ntmps57
      go_wp2_with fail
      refine HZ0.out.mono ?_
      rintro e w' ⟨rfl, rfl⟩
      go_wp2_with fail
      go_ret3
      rw [HV.out]
      refine ⟨?_, Calm.refl _⟩
      rw [HT.out]
      rfl
  · obtain ⟨k, hk⟩ : ∃ k, k = min (S.length - 1) 156 := ⟨_, rfl⟩
    have hkl : k ≤ s.size := by omega
    obtain ⟨l1, hl1⟩ : ∃ l1, l1 = s.size - 1 := ⟨_, rfl⟩
    have hl1i : (s.size : Int) - 1 = (l1 : Int) := by omega
    have hmin : (l1 < 156 ∧ k = l1) ∨ (¬ l1 < 156 ∧ k = 156) := by omega
    clear hl1
    have hmt : (min (l1 : Int) 156).toNat = k := by omega
    have HMN := Lib.hid (⟨hl1i, hmt⟩ : _ ∧ _)
    clear hl1i hmin hmt
    obtain ⟨t, ht⟩ : ∃ t, t = s.extract 0 k := ⟨_, rfl⟩
    have htd : t.data.toList = S.take k := by rw [ht, ext_take, hS]
    have hts : t.size = k := by
      have : t.data.toList.length = t.size := Array.length_toList
      rw [← this, htd, List.length_take]
      omega
    have HLB := Lib.hid (show Calls Tryz.prog 83 #[.string t, .int .u8 47] w fun e w' => e = .returned (.int .i64 (Lib.lastIndexByte t 47)) ∧ w = w' from (Any.strings_LastIndexByte Tryz.lastB t 47 (by omega) w).mono fun _ _ ⟨a, b⟩ => ⟨a, b.symm⟩)
    have hget : ∀ j, j < k → ∀ c : UInt8, (S[j]? = some c ↔ t.data[j]! = c) := fun j hj c => by
      have hjt : j < t.data.size := by have : t.data.size = t.size := rfl; omega
      have h2 : S[j]? = some t.data[j] := by
        have h3 : (S.take k)[j]? = some t.data[j] := by
          rw [← htd, Array.getElem?_toList]
          exact Array.getElem?_eq_getElem hjt
        rw [List.getElem?_take_of_lt hj] at h3
        exact h3
      rw [h2, getElem!_pos t.data j hjt]
      exact ⟨fun e => Option.some.inj e, fun e => by rw [e]⟩
    have h47 : ∀ c : UInt8, ((c.toNat : Int) = 47 ↔ c = 47) := fun c => ⟨fun e => UInt8.toNat_inj.1 (by show c.toNat = 47; omega), fun e => by rw [e]; rfl⟩
    have hsp := Lib.lastIndexByte_spec t 47
    obtain ⟨R, hR⟩ : ∃ R, R = Lib.lastIndexByte t 47 := ⟨_, rfl⟩
    rw [← hR] at HLB hsp
    -- what the place says
    have hpl : (R < 1 ∧ V = ([], [], false)) ∨ (∃ i : Nat, R = i ∧ 0 < i ∧ i < k ∧ 100 < s.size - i - 1 ∧ V = ([], [], false)) ∨ (∃ i : Nat, R = i ∧ 0 < i ∧ i < k ∧ s.size - i - 1 ≤ 100 ∧ V = (S.take i, S.drop (i + 1), true)) := by
      rcases hsp with ⟨e1, e2⟩ | ⟨i, e1, e2, e3, e4⟩
      · refine Or.inl ⟨by omega, ?_⟩
        rw [hV]
        refine part_no (by omega) (fun j j1 j2 _ j4 => ?_)
        have hj : j < k := by omega
        exact e2 j (by omega) ((h47 _).2 ((hget j hj 47).1 j4))
      · have hik : i < k := by omega
        have hi47 : S[i]? = some 47 := (hget i hik 47).2 ((h47 _).1 e3)
        have hup : ∀ j, i < j → j < min (S.length - 1) 156 → S[j]? ≠ some 47 := fun j j1 j2 j4 => by
          have hj : j < k := by omega
          exact e4 j j1 (by omega) ((h47 _).2 ((hget j hj 47).1 j4))
        by_cases hi0 : i = 0
        · refine Or.inl ⟨by omega, ?_⟩
          rw [hV]
          exact part_no (by omega) (fun j j1 j2 _ => hup j (by omega) j2)
        · by_cases hi1 : s.size - i - 1 ≤ 100
          · refine Or.inr (Or.inr ⟨i, e2, by omega, hik, hi1, ?_⟩)
            rw [hV]
            exact part_yes (by omega) (by omega) (by omega) hi47 (by omega) hup
          · refine Or.inr (Or.inl ⟨i, e2, by omega, hik, by omega, ?_⟩)
            rw [hV]
            refine part_no (by omega) (fun j j1 j2 j3 j4 => ?_)
            by_cases hij : i < j
            · exact hup j hij j2 j4
            · omega
    have HK := Lib.hid (⟨hk, ht, hts, hV⟩ : _ ∧ _ ∧ _ ∧ _)
    have h1i : ¬ (s.size : Int) ≤ 100 := by omega
    have HTX := Lib.hid ht
    have hext : s.extract 0 k = t := ht.symm
    clear hsp hget h47 hV hR htd hts hk hS ht hsl h1
    obtain ⟨hl1i, hmt⟩ := HMN.out
    have HQ := Lib.hid hpl
    clear hpl
    have hlow : (min (l1 : Int) 156) ≤ (s.size : Int) := by omega
    have hlo0 : (0 : Int) ≤ min (l1 : Int) 156 := by omega
    go_enter Tryz.func57, Tryz.ntmps57
    go_wp2_with fail
    refine HZ0.out.mono ?_
    rintro e w' ⟨rfl, rfl⟩
    go_wp2_with fail
    refine HZX.out.mono ?_
    rintro e w' ⟨rfl, rfl⟩
    go_wp2_with fail
    refine HLB.out.mono ?_
    rintro e w' ⟨rfl, rfl⟩
    clear HLB hext hl1i hmt hlow hlo0
    rcases HQ.out with ⟨q1, q2⟩ | ⟨i, q1, q2, q3, q4, q5⟩ | ⟨i, q1, q2, q3, q4, q5⟩
    · have HE := Lib.hid q2
      have q1' : decide (R < 1) = true := decide_eq_true q1
      clear q2 HQ
      go_wp2_with fail
      go_ret3
      rw [HE.out]
      exact ⟨rfl, Calm.refl _⟩
    · have HE := Lib.hid q5
      subst q1
      have g1 : ¬ ((i : Int) < 1) := by omega
      have g1' : ¬ (i < 1) := by omega
      have g2 : (100 : Int) < (s.size : Int) - (i : Int) - 1 := by omega
      have g3 : (i : Int) ≤ (s.size : Int) := by omega
      clear q5 HQ
      go_wp2_with fail
      refine HZ0.out.mono ?_
      rintro e w' ⟨rfl, rfl⟩
      go_wp2_with fail
      go_ret3
      rw [HE.out]
      exact ⟨rfl, Calm.refl _⟩
    · subst q1
      have g1 : ¬ ((i : Int) < 1) := by omega
      have g1' : ¬ (i < 1) := by omega
      have g2 : ¬ ((100 : Int) < (s.size : Int) - (i : Int) - 1) := by omega
      have g3 : (i : Int) ≤ (s.size : Int) := by omega
      have g4 : (i : Int) + 1 ≤ (s.size : Int) := by omega
      have g5 : IntKind.i64.wrap ((i : Int) + 1) = (i : Int) + 1 := IntWalk.i64_in _ (by omega)
      have HE := Lib.hid (show V = (S.take i, S.drop (i + 1), true) ∧ tx (S.take i) = s.extract 0 i ∧ tx (S.drop (i + 1)) = s.extract (i + 1) s.size from ⟨q5, by rw [HS.out.1]; exact (ext_take s i).symm, by rw [HS.out.1]; exact (ext_drop s (i + 1)).symm⟩)
      clear q5 HQ
      go_wp2_with fail
      refine HZ0.out.mono ?_
      rintro e w' ⟨rfl, rfl⟩
      go_wp2_with fail
      go_quiet (fail)
      go_wp2_with fail
      go_ret3
      rw [HE.out.1, HE.out.2.1, HE.out.2.2]
      exact ⟨rfl, ⟨nq, rfl⟩⟩
end Go.Proofs.YtgimiggffpokpaaGreatDoor.he
