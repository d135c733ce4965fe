/-
  The document's Look.
-/
import Derived.Test.YtppkmfhlmmlckaaNmD
namespace Go.Proofs.Ytppkmfhlmmlckaa.nm
set_option maxRecDepth 100000
open Go.RowKit Go.Maps
set_option maxRecDepth 100000

/-- Where a name is first, if it is there (else: how many there are). -/
def firstI : List Nm → ByteArray → Nat
  | [], _ => 0
  | x :: r, s => if x.1 = s then 0 else firstI r s + 1
/-- None of the first k is so called. -/
def NoTo (l : List Nm) (s : ByteArray) (k : Nat) : Prop := ∀ j x, j < k → l[j]? = some x → x.1 ≠ s
theorem NoTo.zero (l : List Nm) (s : ByteArray) : NoTo l s 0 := fun j x h => by omega
theorem NoTo.next {l : List Nm} {s : ByteArray} {k : Nat} {x : Nm} (h : NoTo l s k) (hx : l[k]? = some x) (hn : x.1 ≠ s) : NoTo l s (k + 1) := fun j z hj hz => by
  by_cases e : j = k
  · subst e
    rw [hx] at hz
    cases hz
    exact hn
  · exact h j z (by omega) hz
theorem NoTo.tail {x : Nm} {r : List Nm} {s : ByteArray} {k : Nat} (h : NoTo (x :: r) s (k + 1)) : NoTo r s k := fun j z hj hz => h (j + 1) z (by omega) (by simpa using hz)
theorem firstI_at : ∀ (l : List Nm) (s : ByteArray) (k : Nat) (x : Nm), NoTo l s k → l[k]? = some x → x.1 = s → firstI l s = k
  | [], _, _, _, _, h, _ => by simp at h
  | y :: r, s, 0, x, _, h, e => by
    simp at h
    subst h
    rw [firstI, if_pos e]
  | y :: r, s, k + 1, x, hn, h, e => by
    rw [firstI, if_neg (hn 0 y (by omega) rfl), firstI_at r s k x hn.tail (by simpa using h) e]
theorem firstI_none : ∀ (l : List Nm) (s : ByteArray), NoTo l s l.length → firstI l s = l.length
  | [], _, _ => rfl
  | y :: r, s, hn => by
    rw [firstI, if_neg (hn 0 y (by simp) rfl), firstI_none r s (NoTo.tail (by simpa using hn)), List.length_cons]
theorem firstI_no : ∀ (l : List Nm) (s : ByteArray), NoTo l s (firstI l s)
  | [], s => NoTo.zero _ _
  | y :: r, s => by
    rw [firstI]
    by_cases h : y.1 = s
    · rw [if_pos h]
      exact NoTo.zero _ _
    · rw [if_neg h]
      intro j x hj hx
      rcases j with _ | j
      · simp at hx
        subst hx
        exact h
      · exact firstI_no r s j x (by omega) (by simpa using hx)
theorem firstI_le : ∀ (l : List Nm) (s : ByteArray), firstI l s ≤ l.length
  | [], _ => Nat.le_refl _
  | y :: r, s => by
    rw [firstI, List.length_cons]
    split
    · omega
    · have := firstI_le r s
      omega
theorem firstI_is : ∀ (l : List Nm) (s : ByteArray) (x : Nm), l[firstI l s]? = some x → x.1 = s
  | [], _, _, h => by simp [firstI] at h
  | y :: r, s, x, h => by
    by_cases e : y.1 = s
    · rw [firstI, if_pos e] at h
      simp at h
      subst h
      exact e
    · rw [firstI, if_neg e] at h
      exact firstI_is r s x (by simpa using h)
/-- What Look answers. -/
def lookR (l : List Nm) (s : ByteArray) : Int × Int := if nmB s = true then (match l[firstI l s]? with | some x => (x.2, 0) | none => (0, 5)) else (0, 71)
theorem lookR_no {l : List Nm} {s : ByteArray} (h : nmB s = false) : lookR l s = (0, 71) := if_neg (by rw [h]; simp)
theorem lookR_at {l : List Nm} {s : ByteArray} {k : Nat} {x : Nm} (h : nmB s = true) (hn : NoTo l s k) (hx : l[k]? = some x) (e : x.1 = s) : lookR l s = (x.2, 0) := by
  unfold lookR
  rw [if_pos h, firstI_at l s k x hn hx e, hx]
theorem lookR_none {l : List Nm} {s : ByteArray} (h : nmB s = true) (hn : NoTo l s l.length) : lookR l s = (0, 5) := by
  unfold lookR
  rw [if_pos h, firstI_none l s hn, List.getElem?_eq_none (Nat.le_refl _)]

set_option maxHeartbeats 2000000 in
theorem rlook (w : World) (A : Option Addr) (cap : Nat) (l : List Nm) (s : ByteArray) (hr : RdN w w.heap.size A l) (hb : l.length ≤ 140737488351232) (hs : s.size ≤ maxLen) :
    Calls Try.prog 20 #[.slice A l.length cap, .string s] w fun e w' => e = .returned (.tuple #[.int .i64 (lookR l s).1, .int .i64 (lookR l s).2]) ∧ w = w' := by
  obtain ⟨n, hn⟩ : ∃ n, n = l.length := ⟨_, rfl⟩
  rw [← hn] at hb ⊢
  have HR := Lib.hid hr
  have HN := Lib.hid hn
  have HCK := Lib.hid (rcheck w s hs)
  obtain ⟨r0, h0⟩ : ∃ r0, r0 = (lookR l s).1 := ⟨_, rfl⟩
  obtain ⟨r1, h1⟩ : ∃ r1, r1 = (lookR l s).2 := ⟨_, rfl⟩
  have HL := Lib.hid (⟨h0, h1⟩ : _ ∧ _)
  rw [← h0, ← h1]
  clear hr hn h0 h1
  cases hnm : nmB s with
  | false =>
    have hz := chkZ_no hnm
    rw [hz] at HCK
    have HE := Lib.hid (lookR_no (l := l) hnm)
    clear hz hnm
    go_enter Try.func20, Try.ntmps20
    go_wp2_with fail
    refine HCK.out.mono ?_
    rintro e w' ⟨rfl, rfl⟩
    go_wp2_with fail
    go_ret2
    exact ⟨by rw [HL.out.1, HL.out.2, HE.out]; rfl, rfl⟩
  | true =>
    have hz := chkZ_ok hnm
    rw [hz] at HCK
    have HNM := Lib.hid hnm
    clear hz hnm
    go_enter Try.func20, Try.ntmps20
    go_wp2_with fail
    refine HCK.out.mono ?_
    rintro e w' ⟨rfl, rfl⟩
    go_wp2_with fail
    go_loop [7] (fun i => ∃ k : Nat, k ≤ n ∧ i = .int .i64 k ∧ Hid (NoTo l s k)) (fun i => n - (intOf i).toNat)
    case atStart => exact ⟨0, Nat.zero_le _, rfl, (show NoTo l s 0 from NoTo.zero _ _)⟩
    case round =>
      obtain ⟨k, hk, rfl, HK⟩ := hrel
      by_cases hlt : k < n
      · obtain ⟨x, hx⟩ : ∃ x, l[k]? = some x := ⟨_, List.getElem?_eq_getElem (by have := HN.out; omega)⟩
        obtain ⟨b, o, rfl, _, p0, p1⟩ := HR.out.at_ hx
        obtain ⟨xs, xi⟩ := x
        by_cases he : xs.toList = s.toList
        · have HE := Lib.hid (lookR_at HNM.out HK.out hx (toL_inj he))
          have he2 : (xs.toList == s.toList) = true := beq_iff_eq.2 he
          clear hx
          go_wp2_with fail
          go_ret2
          exact ⟨by rw [HL.out.1, HL.out.2, HE.out]; rfl, rfl⟩
        · have HE := Lib.hid (HK.out.next hx (fun e => he (congrArg ByteArray.toList e)))
          have he2 : (xs.toList == s.toList) = false := beq_eq_false_iff_ne.2 he
          clear hx
          go_wp2_with fail
          go_round
          case rel => exact ⟨k + 1, by omega, by go_num, HE⟩
          case measure => simp [intOf]; omega
      · obtain rfl : k = n := by omega
        have HE := Lib.hid (lookR_none HNM.out (by rw [← HN.out]; exact HK.out))
        go_wp2_with fail
        go_ret2
        exact ⟨by rw [HL.out.1, HL.out.2, HE.out]; rfl, rfl⟩
end Go.Proofs.Ytppkmfhlmmlckaa.nm
