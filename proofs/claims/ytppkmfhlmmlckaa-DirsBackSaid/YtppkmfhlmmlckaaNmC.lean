/-
  SameNames.
-/
import Derived.Test.YtppkmfhlmmlckaaNmB
import Derived.Deep.QuietTactic
import Derived.BigQuiet
namespace Go.Proofs.Ytppkmfhlmmlckaa.nm
set_option maxRecDepth 100000
open Go.RowKit Go.Maps
set_option maxRecDepth 100000

theorem toL_inj {a b : ByteArray} (h : a.toList = b.toList) : a = b := by
  rw [toL, toL] at h
  obtain ⟨⟨la⟩⟩ := a
  obtain ⟨⟨lb⟩⟩ := b
  have h : la = lb := h
  rw [h]
theorem RdN.calm {w w' : World} {B : Nat} {A : Option Addr} {l : List Nm} (h : RdN w B A l) (hC : Calm w w') (hB : B ≤ w.heap.size) : RdN w' B A l := h.still hC.fr hB
/-- The cells of a name. -/
theorem RdN.at_ {w : World} {B : Nat} {A : Option Addr} {l : List Nm} (h : RdN w B A l) {k : Nat} {x : Nm} (hk : l[k]? = some x) :
    ∃ b o, A = some ⟨b, o, none⟩ ∧ b < B ∧ w.cell? ⟨b, o + k * 2, none⟩ = some (.string x.1) ∧ w.cell? ⟨b, o + k * 2 + 1, none⟩ = some (.int .i64 x.2) := by
  obtain ⟨b, o, e, hb, hc⟩ := h.cells (by rintro rfl; simp at hk)
  exact ⟨b, o, e, hb, (hc k x hk).1, (hc k x hk).2⟩
theorem takeN_succ {l1 l2 : List Nm} {k : Nat} {x : Nm} (h : l1.take k = l2.take k) (h1 : l1[k]? = some x) (h2 : l2[k]? = some x) : l1.take (k + 1) = l2.take (k + 1) := by
  rw [List.take_add_one, List.take_add_one, h, h1, h2]

set_option maxHeartbeats 2000000 in
theorem sameN_core (w : World) (A1 A2 : Option Addr) (B1 B2 c1 c2 : Nat) (l1 l2 : List Nm) (h1 : RdN w B1 A1 l1) (h2 : RdN w B2 A2 l2) (hB1 : B1 ≤ w.heap.size) (hB2 : B2 ≤ w.heap.size) (hl : l1.length = l2.length) (hb : l1.length ≤ 140737488351232) :
    Calls Try.prog 14 #[.slice A1 l1.length c1, .slice A2 l2.length c2] w fun e w' => e = .returned (.bool (decide (l1 = l2))) ∧ Calm w w' := by
  obtain ⟨n, hn⟩ : ∃ n, n = l1.length := ⟨_, rfl⟩
  rw [← hl, ← hn]
  have hb' : n ≤ 140737488351232 := by omega
  have HR := Lib.hid (⟨h1, h2, hB1, hB2⟩ : _ ∧ _ ∧ _ ∧ _)
  have HN := Lib.hid (⟨hn, hl⟩ : _ ∧ _)
  clear h1 h2 hB1 hB2 hn hl hb
  go_enter Try.func14, Try.ntmps14
  go_wp2_with fail
  go_loopw [5] (fun i wr => ∃ k : Nat, k ≤ n ∧ i = .int .i64 k ∧ Hid (l1.take k = l2.take k ∧ Calm w wr)) (fun i _ => n - (intOf i).toNat)
  case atStart => exact ⟨0, Nat.zero_le _, rfl, (show _ ∧ _ from ⟨rfl, Calm.refl _⟩)⟩
  case round =>
    obtain ⟨k, hk, rfl, HC⟩ := hrel
    by_cases hlt : k < n
    · obtain ⟨x, hx⟩ : ∃ x, l1[k]? = some x := ⟨_, List.getElem?_eq_getElem (by have := HN.out.1; omega)⟩
      obtain ⟨y, hy⟩ : ∃ y, l2[k]? = some y := ⟨_, List.getElem?_eq_getElem (by have := HN.out; omega)⟩
      obtain ⟨b1, o1, rfl, _, p0, p1⟩ := (HR.out.1.calm HC.out.2 HR.out.2.2.1).at_ hx
      obtain ⟨b2, o2, rfl, _, q0, q1⟩ := (HR.out.2.1.calm HC.out.2 HR.out.2.2.2).at_ hy
      obtain ⟨xs, xi⟩ := x
      obtain ⟨ys, yi⟩ := y
      have h0 : (0 : Int) ≤ k := by omega
      have h1 : (k : Int) < n := by omega
      by_cases he : (xs, xi) = (ys, yi)
      · cases he
        have HE := Lib.hid (takeN_succ HC.out.1 hx hy)
        clear hx hy
        go_wp2_with fail
        go_region
        go_wp2
        go_roundw
        case rel => exact ⟨k + 1, by omega, by go_num, (show _ ∧ _ from ⟨HE.out, HC.out.2.trans ⟨1, rfl⟩⟩)⟩
        case measure => simp [intOf]; omega
      · have HD := Lib.hid (show decide (l1 = l2) = false from decide_eq_false (fun e => he (by rw [e, hy] at hx; exact (Option.some.inj hx).symm)))
        have hor : ¬ xs.toList = ys.toList ∨ (xs.toList = ys.toList ∧ ¬ xi = yi) := by
          by_cases hs : xs.toList = ys.toList
          · exact Or.inr ⟨hs, fun e => he (by rw [toL_inj hs, e])⟩
          · exact Or.inl hs
        clear hx hy he
        rcases hor with hor | ⟨hor, hor2⟩
        · go_wp2_with fail
          go_region
          go_wp2
          go_ret
          exact ⟨by rw [HD.out]; rfl, HC.out.2.trans ⟨1, rfl⟩⟩
        · go_wp2_with fail
          go_region
          go_wp2
          go_ret
          exact ⟨by rw [HD.out]; rfl, HC.out.2.trans ⟨1, rfl⟩⟩
    · obtain rfl : k = n := by omega
      have HD := Lib.hid (show decide (l1 = l2) = true from decide_eq_true (by
        have h := HC.out.1
        rw [List.take_of_length_le (by have := HN.out; omega), List.take_of_length_le (by have := HN.out; omega)] at h
        exact h))
      go_wp2_with fail
      go_wp2
      go_ret
      exact ⟨by rw [HD.out]; rfl, HC.out.2⟩
set_option maxHeartbeats 400000 in
theorem sameN_len (w : World) (p1 p2 : Option Addr) (n1 n2 c1 c2 : Nat) (h : n1 ≠ n2) :
    Calls Try.prog 14 #[.slice p1 n1 c1, .slice p2 n2 c2] w fun e w' => e = .returned (.bool false) ∧ w = w' := by
  have hne : ((n1 : Int) != (n2 : Int)) = true := by rw [bne_iff_ne]; omega
  clear h
  go_enter Try.func14, Try.ntmps14
  go_wp2
  go_ret
  exact ⟨rfl, rfl⟩
theorem sameN_any (w : World) (A1 A2 : Option Addr) (B1 B2 c1 c2 : Nat) (l1 l2 : List Nm) (h1 : RdN w B1 A1 l1) (h2 : RdN w B2 A2 l2) (hB1 : B1 ≤ w.heap.size) (hB2 : B2 ≤ w.heap.size) (hb : l1.length ≤ 140737488351232) :
    Calls Try.prog 14 #[.slice A1 l1.length c1, .slice A2 l2.length c2] w fun e w' => e = .returned (.bool (decide (l1 = l2))) ∧ Calm w w' := by
  by_cases h : l1.length = l2.length
  · exact sameN_core w A1 A2 B1 B2 c1 c2 l1 l2 h1 h2 hB1 hB2 h hb
  · refine (sameN_len w A1 A2 _ _ c1 c2 h).mono ?_
    rintro e w' ⟨rfl, rfl⟩
    exact ⟨by rw [decide_eq_false (fun e => h (by rw [e]))], Calm.refl _⟩
end Go.Proofs.Ytppkmfhlmmlckaa.nm
