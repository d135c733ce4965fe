/-
  The document's Get; Clone; Put, the program's and the document's.
-/
import Derived.Test.YtppkmfhlmmlckaaBitsF
namespace Go.Proofs.Ytppkmfhlmmlckaa
set_option maxRecDepth 100000
open Go.RowKit Go.Maps

set_option maxHeartbeats 1000000 in
theorem rget_ok (w : World) (A : Option Addr) (n cap B a k : Nat) (l : List UInt8) (hr : Rd w B A l) (hn : l.length = n) (hl : n ≤ 140737488351232) (h1 : 1 ≤ k) (h4 : k ≤ 4) (hak : a + k ≤ n) :
    Calls Try.prog 27 #[.slice A n cap, .int .i64 (a : Int), .int .i64 (k : Int)] w fun e w' => e = .returned (.tuple #[.int .i64 ((numAt l a k : Nat) : Int), .int .i64 0]) ∧ w = w' := by
  have HS := Lib.hid (show Std n a k from ⟨by omega, by omega, by omega, by omega⟩)
  have HR := Lib.hid hr
  have HN := Lib.hid hn
  have HZ := Lib.hid (numAt_zero l (a + k))
  clear hr hn
  go_enter Try.func27, Try.ntmps27
  go_wp2_with (go_at_call 41; refine (place_ok _ _ _ _ _ _ hl HS.out).mono ?_; rintro e w' ⟨rfl, rfl⟩)
  go_loop [8, 9] (fun v i => ∃ (j : Nat) (z : Int), j ≤ k ∧ z ≤ (j : Int) - 1 ∧ (j : Int) - 1 ≤ z ∧ i = .int .i64 z ∧ v = .int .i64 ((numAt l (a + j) (k - j) : Nat) : Int)) (fun _ i => (intOf i + 1).toNat)
  case atStart => exact ⟨k, (k : Int) - 1, Nat.le_refl _, by omega, by omega, rfl, by rw [Nat.sub_self, HZ.out]; rfl⟩
  case round =>
    obtain ⟨j, z, hj, hz1, hz2, rfl, rfl⟩ := hrel
    by_cases hlt : 0 < j
    · obtain ⟨m, rfl⟩ : ∃ m, j = m + 1 := ⟨j - 1, by omega⟩
      obtain rfl : z = (m : Int) := by omega
      have hjl : a + m < l.length := by have := HN.out; omega
      obtain ⟨blk, off, rfl, _, hc⟩ := HR.out.at_ hjl
      have hx := l[a + m].toNat_lt
      have hcons := numAt_cons l (a := a + m) (k := k - (m + 1)) hjl
      rw [show k - (m + 1) + 1 = k - m by omega, show a + m + 1 = a + (m + 1) by omega] at hcons
      have hsm := numAt_small l (a + (m + 1)) (k := k - (m + 1)) (by omega)
      have hsm2 := numAt_small l (a + m) (k := k - m) (by omega)
      obtain ⟨x, hxx⟩ : ∃ x, x = l[a + m].toNat := ⟨_, rfl⟩
      rw [← hxx] at hc hx hcons
      generalize numAt l (a + (m + 1)) (k - (m + 1)) = N0 at hcons hsm ⊢
      have HC := Lib.hid hcons
      have hsm3 : 256 * N0 < 4294967296 := by omega
      clear hjl hxx hcons hz1 hz2 hlt hsm2
      have hi1 : (0 : Int) ≤ (a : Int) + m := by omega
      have hi2 : (a : Int) + m < n := by omega
      go_wp2_with fail
      go_round
      case rel => exact ⟨m, (m : Int) - 1, by omega, by omega, by omega, rfl, by rw [HC.out]; go_num⟩
      case measure => simp [intOf]
    · obtain rfl : j = 0 := by omega
      obtain rfl : z = -1 := by omega
      rw [Nat.add_zero, Nat.sub_zero]
      go_wp2_with fail
      go_ret2
      exact ⟨rfl, rfl⟩

/-! ### Clone -/
set_option maxHeartbeats 1000000 in
theorem clone_any (w : World) (A : Option Addr) (n cap B : Nat) (l : List UInt8) (hr : Rd w B A l) (hn : l.length = n) (hB : B ≤ w.heap.size) (hA : A = none → cap = 0) (hl : n ≤ 140737488351232) :
    Calls Try.prog 44 #[.slice A n cap] w (NewB w l) := by
  obtain ⟨i0, hi, hz0, hz1, hz2⟩ := info_parts infoB
  have hO : (w.alloc (.cells #[] 5)).ownsRow w.heap.size 5 1 (.slice (some ⟨w.heap.size, 0, none⟩) 0 0) 0 [] := World.ownsRow_made w #[] 0 (Nat.le_refl _) (Nat.zero_le _) (by simp)
  have hF : Fr (fun _ => False) w (w.alloc (.cells #[] 5)) := (Fr.refl _ w).alloc _
  have HO := Lib.hid hO
  have HF := Lib.hid hF
  have HI := Lib.hid (⟨hi, hz0, hz1, hz2⟩ : _ ∧ _ ∧ _ ∧ _)
  have q22 : ∀ (w : World) (a : Option Addr) (n c n' c' : Nat), (binOp .eql 22 (.slice a n c) (.slice none n' c')).run Try.prog w = .ok (.bool a.isNone) w := fun w a n c n' c' => Lib.run_eql_slice_nil w _ _ a n c n' c' Try.underlying22
  clear hO hF hi hz0 hz1 hz2
  have HN := Lib.hid hn
  cases A with
  | none =>
    have h0 : l = [] := by
      apply Decidable.byContradiction
      intro hne
      obtain ⟨_, _, e, _⟩ := hr hne
      cases e
    obtain rfl : cap = 0 := hA rfl
    obtain rfl : n = 0 := by rw [← hn, h0]; rfl
    have H0 := Lib.hid h0
    clear hr hA hl hn h0
    go_enter Try.func44, Try.ntmps44
    go_wp2_with fail
    go_ret
    rw [H0.out]
    exact ⟨none, 0, rfl, ⟨rfl, Or.inl ⟨rfl, rfl⟩⟩, Fr.refl _ _⟩
  | some ad =>
    have hr1 := hr.still HF.out hB
    have HS := Lib.hid hr1.src
    clear hr hA hn hr1
    go_enter Try.func44, Try.ntmps44
    go_wp2_with (at_builtin; refine wpList_append_own _ rfl (.tmp 5) (.tmp 6) 22 rfl w.heap.size 5 i0 (.int .u8 0) 1 1 Try.underlying22 HI.out.1 HI.out.2.1 HI.out.2.2.1 HI.out.2.2.2 rfl (by omega) _ 0 [] rfl HO.out ad n cap (bs l) rfl ?c1 HS.out (bs_one l) ?c2 ?c3 ?c4 ?c5)
    case c1 => rw [bs_length, HN.out]; omega
    case c2 => unfold maxLen; omega
    case c3 => omega
    case c4 => simp
    case c5 =>
      intro v' w1 hown hgrow hnil
      have hfr := HF.out.grown hgrow (fun k hk => Or.inr (by simp [Value.ownBlock] at hk; omega))
      have HW := Lib.hid (⟨hown, hfr, hnil⟩ : _ ∧ _ ∧ _)
      clear hown hgrow hnil hfr
      go_wp2
      go_ret
      exact NewB.of_own HN.out.symm rfl HW.out.2.2 HW.out.1 HW.out.2.1

/-- The refused way of the calls that make bytes. -/
theorem put_no (w : World) (A : Option Addr) (n cap : Nat) (a k m : Int) (hl : n ≤ 140737488351232) (h : ¬ Std n a k) :
    Calls Try.prog 29 #[.slice A n cap, .int .i64 a, .int .i64 k, .int .i64 m] w fun e w' => e = .returned (.tuple #[.slice none 0 0, .int .i64 2]) ∧ w = w' := by
  have H := Lib.hid h
  clear h
  go_enter Try.func29, Try.ntmps29
  go_wp2_with (go_at_call 42; refine (stands_no _ _ _ _ _ _ hl H.out).mono ?_; rintro e w' ⟨rfl, rfl⟩)
  go_ret2
  exact ⟨rfl, rfl⟩
theorem put_no2 (w : World) (A : Option Addr) (n cap : Nat) (a : Int) (k : Nat) (m : Int) (hl : n ≤ 140737488351232) (h : Std n a k) (hg : goesB m k = false) :
    Calls Try.prog 29 #[.slice A n cap, .int .i64 a, .int .i64 (k : Int), .int .i64 m] w fun e w' => e = .returned (.tuple #[.slice none 0 0, .int .i64 2]) ∧ w = w' := by
  have H := Lib.hid h
  have h1 : 1 ≤ k := by have := h.1; omega
  have h2 : k ≤ 4 := by have := h.2.1; omega
  have HG := Lib.hid hg
  clear h hg
  go_enter Try.func29, Try.ntmps29
  go_wp2_with (first
    | (go_at_call 42; refine (stands_ok _ _ _ _ _ _ hl H.out).mono ?_; rintro e w' ⟨rfl, rfl⟩)
    | (go_at_call 43; refine (goes_any _ _ _ h2 h1 _ HG.out).mono ?_; rintro e w' ⟨rfl, rfl⟩))
  go_ret2
  exact ⟨rfl, rfl⟩

/-- Bytes that a call made, and no error. -/
def NewB2 (w : World) (l : List UInt8) (e : Ending) (w' : World) : Prop :=
  ∃ A cap, e = .returned (.tuple #[.slice A l.length cap, .int .i64 0]) ∧ Own w' w.heap.size (.slice A l.length cap) l ∧ (A = none → cap = 0) ∧ Fr (fun _ => False) w w'

theorem own_none {w : World} {base cap n : Nat} {A : Option Addr} {l : List UInt8} (h : Own w base (.slice A n cap) l) (hA : A = none) : cap = 0 := by
  subst hA
  obtain ⟨_, h2⟩ := h
  rcases h2 with ⟨e, _⟩ | ⟨g, cap', cur, hv, _⟩
  · cases e; rfl
  · cases hv

end Go.Proofs.Ytppkmfhlmmlckaa
