/-
  The document's parted.
-/
import Derived.Test.YtdocanihocbhhaaDoorHeR
import Derived.BigQuiet
namespace Go.Proofs.YtdocanihocbhhaaDoor.he
set_option maxRecDepth 100000
open Go.RowKit Go.Maps
set_option maxRecDepth 100000

/-- A name as a prefix and a name; false: it can't be. -/
def partV (s : Bts) : Bts × Bts × Bool := match partedV s with
  | none => ([], [], false)
  | some q => (q.1, q.2, true)
/-- What is told of one place. -/
def spotV (s : Bts) (i : Nat) : Option (Bts × Bts) := if 0 < i ∧ s[i]? = some 47 ∧ i ≤ 155 ∧ 1 ≤ s.length - i - 1 ∧ s.length - i - 1 ≤ 100 then some (s.take i, s.drop (i + 1)) else none
def downV (s : Bts) (i : Nat) : Option (Bts × Bts) := (List.range i).reverse.findSome? (spotV s)
theorem down_next (s : Bts) (i : Nat) : downV s (i + 1) = (match spotV s i with
    | some q => some q
    | none => downV s i) := by
  unfold downV
  rw [List.range_succ, List.reverse_append, List.reverse_singleton, List.singleton_append, List.findSome?_cons]
  cases spotV s i <;> rfl
theorem down_one (s : Bts) : downV s 1 = none := by
  rw [down_next]
  have : spotV s 0 = none := by unfold spotV; rw [if_neg (fun h => Nat.lt_irrefl _ h.1)]
  rw [this]
  rfl
theorem parted_down {s : Bts} (h0 : s ≠ []) (h1 : ¬ s.length ≤ 100) : partedV s = downV s s.length := by
  unfold partedV
  rw [if_neg h0, if_neg h1]
  rfl
theorem ext_take (s : ByteArray) (i : Nat) : s.extract 0 i = tx (s.data.toList.take i) := by
  apply ByteArray.ext
  apply Array.toList_inj.1
  rw [Lib.extract_data]
  simp
theorem ext_drop (s : ByteArray) (i : Nat) : s.extract i s.size = tx (s.data.toList.drop i) := by
  apply ByteArray.ext
  apply Array.toList_inj.1
  rw [Lib.extract_data, List.take_of_length_le]
  rw [List.length_drop, Array.length_toList]
  exact Nat.le_refl _
set_option maxHeartbeats 4000000 in
theorem rparted (w : World) (s : ByteArray) (hs : s.size ≤ 140737488351232) : Calls Tryd.prog 35 #[.string s] w fun e w' => e = .returned (.tuple #[.string (tx (partV s.data.toList).1), .string (tx (partV s.data.toList).2.1), .bool (partV s.data.toList).2.2]) ∧ Calm w w' := by
  have hsl : s.data.toList.length = s.size := Array.length_toList
  obtain ⟨S, hS⟩ : ∃ S, S = s.data.toList := ⟨_, rfl⟩
  rw [← hS] at hsl ⊢
  obtain ⟨V, hV⟩ : ∃ V, V = partV S := ⟨_, rfl⟩
  rw [← hV]
  have HS := Lib.hid (⟨hS, hsl, hV⟩ : _ ∧ _ ∧ _)
  by_cases h0 : s = ⟨#[]⟩
  · have HV := Lib.hid (show V = ([], [], false) from by rw [hV, hS, h0]; rfl)
    clear hsl hV hS hs
    subst h0
    go_enter Tryd.func35, Tryd.ntmps35
    go_wp2_with fail
    go_ret3
    rw [HV.out]
    exact ⟨rfl, Calm.refl _⟩
  · have hne : S ≠ [] := fun e => h0 (by
      apply ByteArray.ext
      exact Array.toList_inj.1 (hS ▸ e))
    have hseq : (s.toList == []) = false := by rw [toL, ← hS]; exact beq_eq_false_iff_ne.2 hne
    by_cases h1 : s.size ≤ 100
    · have HV := Lib.hid (show V = ([], S, true) from by rw [hV]; unfold partV partedV; rw [if_neg hne, if_pos (by omega)])
      have HT := Lib.hid (show tx S = s from by rw [hS])
      clear hsl hV hS hs hne
      go_enter Tryd.func35, Tryd.ntmps35
      go_wp2_with fail
      go_ret3
      rw [HV.out]
      refine ⟨?_, Calm.refl _⟩
      rw [HT.out]
      rfl
    · have HV := Lib.hid (show V = (match downV S s.size with
          | none => ([], [], false)
          | some q => (q.1, q.2, true)) from by rw [hV]; unfold partV; rw [parted_down hne (by omega), hsl])
      have h1i : ¬ (s.size : Int) ≤ 100 := by omega
      clear hsl hV hS hne
      go_enter Tryd.func35, Tryd.ntmps35
      go_wp2_with fail
      go_loopw [5] (fun i wr => ∃ k : Nat, k < s.size ∧ i = .int .i64 k ∧ wr = w ∧ Hid (downV S s.size = downV S (k + 1))) (fun i _ => (intOf i).toNat)
      case atStart => exact ⟨s.size - 1, by omega, by go_num, rfl, (show downV S s.size = downV S (s.size - 1 + 1) from by rw [show s.size - 1 + 1 = s.size by omega])⟩
      case round =>
        obtain ⟨k, hk, rfl, rfl, HD⟩ := hrel
        by_cases hk0 : 0 < k
        · have hsk : S[k]? = some s[k] := by
            rw [HS.out.1, Array.getElem?_toList]
            exact Array.getElem?_eq_getElem hk
          have h47 : S[k]? = some 47 ↔ s[k] = 47 := by
            rw [hsk]
            exact ⟨fun e => Option.some.inj e, fun e => by rw [e]⟩
          have hki : (0 : Int) ≤ (k : Int) := by omega
          have hki2 : (k : Int) < (s.size : Int) := by omega
          have hk0i : (0 : Int) < (k : Int) := by omega
          obtain ⟨j, hj⟩ : ∃ j, j = k - 1 := ⟨_, rfl⟩
          have hj2 : j < s.size := by omega
          have hjk : j < k := by omega
          have hji : (k : Int) - 1 = (j : Int) := by omega
          have HL := HS.out.2.1
          have HNO := Lib.hid (show ¬ (s[k] = 47 ∧ k ≤ 155 ∧ 1 ≤ s.size - k - 1 ∧ s.size - k - 1 ≤ 100) → downV S s.size = downV S (j + 1) from fun h => by
            have hsp : spotV S k = none := by
              unfold spotV
              rw [if_neg]
              rintro ⟨_, d1, d2, d3, d4⟩
              rw [HL] at d3 d4
              exact h ⟨h47.1 d1, d2, d3, d4⟩
            rw [HD.out, down_next, hsp, show j + 1 = k by omega])
          have HYES := Lib.hid (show s[k] = 47 ∧ k ≤ 155 ∧ 1 ≤ s.size - k - 1 ∧ s.size - k - 1 ≤ 100 → V = (S.take k, S.drop (k + 1), true) from fun h => by
            have hsp : spotV S k = some (S.take k, S.drop (k + 1)) := by
              unfold spotV
              rw [if_pos ⟨hk0, h47.2 h.1, h.2.1, by rw [HL]; exact h.2.2.1, by rw [HL]; exact h.2.2.2⟩]
            rw [HV.out, HD.out, down_next, hsp])
          clear hsk h47 HL hj HD HV
          have hsz : (s.size : Int) - k - 1 = ((s.size - k - 1 : Nat) : Int) ∨ (s.size : Int) - k - 1 < 1 := by omega
          by_cases d1 : s[k] = 47
          case neg =>
            have hyb : ((s[k].toNat : Int) == 47) = false := beq_eq_false_iff_ne.2 (fun e => d1 (UInt8.toNat_inj.1 (by show s[k].toNat = 47; omega)))
            have HX := Lib.hid (HNO.out (by exact fun h => d1 h.1))
            clear HNO HYES
            clear d1 hsz
            go_wp2_with fail
            go_roundw
            case rel => exact ⟨j, hj2, by go_num, trivial, HX⟩
            case measure => simp [intOf]; omega
          case pos =>
          have hyb : ((s[k].toNat : Int) == 47) = true := by rw [d1]; rfl
          by_cases d2 : k ≤ 155
          case neg =>
            have hkb : ¬ (k : Int) ≤ 155 := by omega
            have HX := Lib.hid (HNO.out (by exact fun h => d2 h.2.1))
            clear HNO HYES
            clear d1 d2 hsz
            go_wp2_with fail
            go_roundw
            case rel => exact ⟨j, hj2, by go_num, trivial, HX⟩
            case measure => simp [intOf]; omega
          case pos =>
          have hkb : (k : Int) ≤ 155 := by omega
          by_cases d3 : 1 ≤ s.size - k - 1
          case neg =>
            have hsb : ¬ (1 : Int) ≤ (s.size : Int) - k - 1 := by omega
            have HX := Lib.hid (HNO.out (by exact fun h => d3 h.2.2.1))
            clear HNO HYES
            clear d1 d2 d3 hsz
            go_wp2_with fail
            go_roundw
            case rel => exact ⟨j, hj2, by go_num, trivial, HX⟩
            case measure => simp [intOf]; omega
          case pos =>
          have hsb : (1 : Int) ≤ (s.size : Int) - k - 1 := by omega
          by_cases d4 : s.size - k - 1 ≤ 100
          case neg =>
            have hsc : ¬ (s.size : Int) - k - 1 ≤ 100 := by omega
            have HX := Lib.hid (HNO.out (by exact fun h => d4 h.2.2.2))
            clear HNO HYES
            clear d1 d2 d3 d4 hsz
            go_wp2_with fail
            go_roundw
            case rel => exact ⟨j, hj2, by go_num, trivial, HX⟩
            case measure => simp [intOf]; omega
          case pos =>
            have hsc : (s.size : Int) - k - 1 ≤ 100 := by omega
            have HX := Lib.hid (HYES.out ⟨d1, d2, d3, d4⟩)
            have HE := Lib.hid (show tx (S.take k) = s.extract 0 k ∧ tx (S.drop (k + 1)) = s.extract (k + 1) s.size from by rw [HS.out.1]; exact ⟨(ext_take s k).symm, (ext_drop s (k + 1)).symm⟩)
            have hk1 : (k : Int) + 1 ≤ (s.size : Int) := by omega
            have hk2 : (k : Int) ≤ (s.size : Int) := by omega
            have hk3 : IntKind.i64.wrap ((k : Int) + 1) = (k : Int) + 1 := IntWalk.i64_in _ (by omega)
            clear HNO HYES d1 d2 d3 d4 hsz
            go_wp2_with fail
            go_quiet (fail)
            go_wp2_with fail
            go_ret3
            rw [HX.out, HE.out.1, HE.out.2]
            exact ⟨rfl, ⟨nq, rfl⟩⟩
        · obtain rfl : k = 0 := by omega
          have HE := Lib.hid (show V = ([], [], false) from by rw [HV.out, HD.out, down_one])
          clear HV HD
          go_wp2_with fail
          go_ret3
          rw [HE.out]
          exact ⟨rfl, Calm.refl _⟩
end Go.Proofs.YtdocanihocbhhaaDoor.he
